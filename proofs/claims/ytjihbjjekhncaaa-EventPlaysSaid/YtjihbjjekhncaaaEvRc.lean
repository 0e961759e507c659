import Derived.Test.YtjihbjjekhncaaaEvRb
import Derived.Test.YtjihbjjekhncaaaPlanF
import Derived.Test.YtjihbjjekhncaaaEvX
import Derived.Deep.DeepCutAuto
namespace Go.Proofs.Ytjihbjjekhncaaa
open Go.RowKit
/-! leatref08: whether an event may be, its number. -/
attribute [local go_sem ↓] exec_loadE exec_storeE exec_allocE exec_buildE exec_loadV
theorem oth_cases (e : Ev) : (regE e.t = false ∧ othE e = false) ∨ (regE e.t = true ∧ (e.t != e.o) = false ∧ othE e = false) ∨ (regE e.t = true ∧ (e.t != e.o) = true ∧ othE e = true) := by
  unfold othE
  cases hr : regE e.t
  · exact .inl ⟨rfl, rfl⟩
  · by_cases hq : e.t = e.o
    · exact .inr (.inl ⟨rfl, by simpa using hq, by simp [hq]⟩)
    · exact .inr (.inr ⟨rfl, by simpa using hq, by simp [hq]⟩)
theorem amt_cases (e : Ev) : (¬ (1 : Int) ≤ e.a ∧ ¬ (0 : Int) ≤ e.a ∧ e.a ≤ 1125899906842624 ∧ amtE e.a 1 = false ∧ amtE e.a 0 = false) ∨ (¬ (1 : Int) ≤ e.a ∧ (0 : Int) ≤ e.a ∧ e.a ≤ 1125899906842624 ∧ amtE e.a 1 = false ∧ amtE e.a 0 = true)
      ∨ ((1 : Int) ≤ e.a ∧ (0 : Int) ≤ e.a ∧ e.a ≤ 1125899906842624 ∧ amtE e.a 1 = true ∧ amtE e.a 0 = true) ∨ ((1 : Int) ≤ e.a ∧ (0 : Int) ≤ e.a ∧ ¬ e.a ≤ 1125899906842624 ∧ amtE e.a 1 = false ∧ amtE e.a 0 = false) := by
  by_cases h0 : e.a < 0
  · exact .inl ⟨by omega, by omega, by omega, by simp [amtE]; omega, by simp [amtE]; omega⟩
  by_cases h1 : e.a < 1
  · exact .inr (.inl ⟨by omega, by omega, by omega, by simp [amtE]; omega, by simp [amtE]; omega⟩)
  by_cases h2 : e.a ≤ 1125899906842624
  · exact .inr (.inr (.inl ⟨by omega, by omega, by omega, by simp [amtE]; omega, by simp [amtE]; omega⟩))
  · exact .inr (.inr (.inr ⟨by omega, by omega, by omega, by simp [amtE]; omega, by simp [amtE]; omega⟩))
theorem zero_cases (x : Nat) : ((x == 0) = true ∧ ¬ (1 : Int) ≤ (x : Int)) ∨ ((x == 0) = false ∧ (1 : Int) ≤ (x : Int)) := by
  by_cases h : x = 0
  · exact .inl ⟨by simpa using h, by omega⟩
  · exact .inr ⟨by simpa using h, by omega⟩
theorem same_cases (x y : Nat) : ((x == y) = true ∧ ((x : Int) != (y : Int)) = false) ∨ ((x == y) = false ∧ ((x : Int) != (y : Int)) = true) := by
  by_cases h : x = y
  · exact .inl ⟨by simpa using h, by simp [h]⟩
  · refine .inr ⟨by simpa using h, ?_⟩
    have : ¬ (x : Int) = (y : Int) := by omega
    simpa using this
set_option maxRecDepth 100000 in
set_option maxHeartbeats 4000000 in
theorem fields_any (e : Ev) (h : e.ok) (w : World) : Calls Try.prog 61 #[.agg (evA e)] w fun x w' => x = .returned (.bool (fldE e)) ∧ Below w.heap.size w w' := by
  have P0 := PB.first (w := w) h.d6
  have HB := Lib.hid P0.bel
  have RG := Lib.hid (rregion6_any e.t)
  have OT := Lib.hid (oth_cases e)
  have AM := Lib.hid (amt_cases e)
  have RZ := Lib.hid (zero_cases e.r)
  have FZ := Lib.hid (zero_cases e.f)
  have RF := Lib.hid (same_cases e.r e.f)
  obtain ⟨R, hR⟩ : ∃ R, Hid (fldE e = R) := ⟨_, Lib.hid rfl⟩
  rw [hR.out]
  obtain ⟨s, hs⟩ : ∃ s, Hid (amtE e.a 1 = s) := ⟨_, Lib.hid rfl⟩
  obtain ⟨o, ho⟩ : ∃ o, Hid (othE e = o) := ⟨_, Lib.hid rfl⟩
  have HP := Lib.hid P0
  clear P0
  obtain ⟨W1, hW1⟩ : ∃ W, Hid (W = w.alloc (.cells (evA e) 26)) := ⟨_, Lib.hid rfl⟩
  have ca := HP.out.src.a
  have ct := HP.out.src.t
  have co := HP.out.src.o
  have ck := HP.out.src.k
  have cr := HP.out.src.r
  have cf := HP.out.src.f
  rw [← hW1.out] at HP HB ca ct co ck cr cf
  go_enter Try.func61, Try.ntmps61
  go_upto_region 1 with fail
  rw [← hW1.out]
  go_cut [3] (fun s3 wx => s3 = .bool s ∧ wx = W1)
  case first =>
    rcases AM.out with ⟨a1, a0, a2, s1, s0⟩ | ⟨a1, a0, a2, s1, s0⟩ | ⟨a1, a0, a2, s1, s0⟩ | ⟨a1, a0, a2, s1, s0⟩
    all_goals
      have HS := Lib.hid (hs.out.symm.trans s1)
      clear s1 s0 OT AM RZ FZ RF a0
      go_wp2_with fail
      go_meet
      exact ⟨by rw [HS.out], rfl⟩
  case rest =>
    obtain ⟨rfl, hwx⟩ := hcut
    rw [hwx]
    clear hwx
    go_upto_region 2 with fail
    go_cut [4] (fun s4 wx2 => s4 = .bool o ∧ wx2 = W1)
    case first =>
      rcases OT.out with ⟨g1, h1⟩ | ⟨g1, hto, h1⟩ | ⟨g1, hto, h1⟩
      all_goals
        have HO := Lib.hid (ho.out.symm.trans h1)
        rw [g1] at RG
        clear g1 h1 OT AM RZ FZ RF
        go_wp2_with fail
        refine (RG.out _).mono ?_
        rintro _ w2 ⟨rfl, rfl⟩
        go_wp2_with fail
        go_meet
        exact ⟨by rw [HO.out], rfl⟩
    case rest =>
      obtain ⟨rfl, hwx⟩ := hcut
      rw [hwx]
      clear hwx
      have T : ∀ j : Nat, e.k = j → ((e.k : Int) == (j : Int)) = true := fun j hj => by rw [hj]; simp
      have N : ∀ j : Nat, ¬ e.k = j → ((e.k : Int) == (j : Int)) = false := fun j hj => by simpa using (fun x : (e.k : Int) = (j : Int) => hj (by omega))
      have HT := Lib.hid T
      have HN := Lib.hid N
      have HF : Hid (fldE e = R) := hR.out
      have HB1 := Lib.hid HB.out
      clear T N ct co OT RG hW1 HP HB hR
      unfold fldE at HF
      by_cases k1 : e.k = 1
      case pos =>
        have HFV := HF.out
        rw [if_pos k1] at HFV
        have q1 : ((e.k : Int) == 1) = true := HT.out 1 k1
        clear k1 HF
        generalize (e.k : Int) = kz at ck q1
        rcases AM.out with ⟨a1, a0, a2, s1, s0⟩ | ⟨a1, a0, a2, s1, s0⟩ | ⟨a1, a0, a2, s1, s0⟩ | ⟨a1, a0, a2, s1, s0⟩
        all_goals
          rw [s0] at HFV
          have HR := Lib.hid HFV
          clear HFV s0 s1 a1
          clear HT HN AM RZ FZ RF hs ho
          go_wp2_with fail
          go_ret
          exact ⟨by rw [← HR.out]; first | rfl | simp [a2], HB1.out⟩
      case neg =>
        by_cases k2 : e.k = 2
        case pos =>
          have HFV := HF.out
          rw [if_neg k1, if_pos k2] at HFV
          have q1 : ((e.k : Int) == 1) = false := HN.out 1 k1
          have q2 : ((e.k : Int) == 2) = true := HT.out 2 k2
          clear k1 k2 HF
          generalize (e.k : Int) = kz at ck q1 q2
          rw [hs.out] at HFV
          have HR := Lib.hid HFV
          clear HFV
          clear HT HN AM RZ FZ RF hs ho
          go_wp2_with fail
          go_ret
          exact ⟨by rw [← HR.out]; rfl, HB1.out⟩
        case neg =>
          by_cases k3 : e.k = 3
          case pos =>
            have HFV := HF.out
            rw [if_neg k1, if_neg k2, if_pos k3] at HFV
            have q1 : ((e.k : Int) == 1) = false := HN.out 1 k1
            have q2 : ((e.k : Int) == 2) = false := HN.out 2 k2
            have q3 : ((e.k : Int) == 3) = true := HT.out 3 k3
            clear k1 k2 k3 HF
            generalize (e.k : Int) = kz at ck q1 q2 q3
            rw [hs.out] at HFV
            rcases RZ.out with ⟨r1, r2⟩ | ⟨r1, r2⟩
            all_goals
              rw [r1] at HFV
              cases s
              all_goals
                have HR := Lib.hid HFV
                clear HFV r1
                clear HT HN AM RZ FZ RF hs ho
                go_wp2_with fail
                go_ret
                exact ⟨by rw [← HR.out]; first | rfl | simp [r2], HB1.out⟩
          case neg =>
            by_cases k4 : e.k = 4
            case pos =>
              have HFV := HF.out
              rw [if_neg k1, if_neg k2, if_neg k3, if_pos k4] at HFV
              have q1 : ((e.k : Int) == 1) = false := HN.out 1 k1
              have q2 : ((e.k : Int) == 2) = false := HN.out 2 k2
              have q3 : ((e.k : Int) == 3) = false := HN.out 3 k3
              have q4 : ((e.k : Int) == 4) = true := HT.out 4 k4
              clear k1 k2 k3 k4 HF
              generalize (e.k : Int) = kz at ck q1 q2 q3 q4
              rcases RZ.out with ⟨r1, r2⟩ | ⟨r1, r2⟩
              all_goals rcases FZ.out with ⟨f1, f2⟩ | ⟨f1, f2⟩
              all_goals rcases RF.out with ⟨x1, x2⟩ | ⟨x1, x2⟩
              all_goals
                rw [r1, f1, x1] at HFV
                have HR := Lib.hid HFV
                clear HFV r1 f1 x1
                clear HT HN AM RZ FZ RF hs ho
                go_wp2_with fail
                go_ret
                exact ⟨by rw [← HR.out]; first | rfl | simp [r2, f2] | simp [r2, f2, x2], HB1.out⟩
            case neg =>
              by_cases k5 : e.k = 5
              case pos =>
                have HFV := HF.out
                rw [if_neg k1, if_neg k2, if_neg k3, if_neg k4, if_pos k5] at HFV
                have q1 : ((e.k : Int) == 1) = false := HN.out 1 k1
                have q2 : ((e.k : Int) == 2) = false := HN.out 2 k2
                have q3 : ((e.k : Int) == 3) = false := HN.out 3 k3
                have q4 : ((e.k : Int) == 4) = false := HN.out 4 k4
                have q5 : ((e.k : Int) == 5) = true := HT.out 5 k5
                clear k1 k2 k3 k4 k5 HF
                generalize (e.k : Int) = kz at ck q1 q2 q3 q4 q5
                rw [hs.out, ho.out] at HFV
                cases s
                all_goals
                  have HR := Lib.hid HFV
                  clear HFV
                  clear HT HN AM RZ FZ RF hs ho
                  go_wp2_with fail
                  go_ret
                  exact ⟨by rw [← HR.out]; rfl, HB1.out⟩
              case neg =>
                by_cases k6 : e.k = 6
                case pos =>
                  have HFV := HF.out
                  rw [if_neg k1, if_neg k2, if_neg k3, if_neg k4, if_neg k5, if_pos k6] at HFV
                  have q1 : ((e.k : Int) == 1) = false := HN.out 1 k1
                  have q2 : ((e.k : Int) == 2) = false := HN.out 2 k2
                  have q3 : ((e.k : Int) == 3) = false := HN.out 3 k3
                  have q4 : ((e.k : Int) == 4) = false := HN.out 4 k4
                  have q5 : ((e.k : Int) == 5) = false := HN.out 5 k5
                  have q6 : ((e.k : Int) == 6) = true := HT.out 6 k6
                  clear k1 k2 k3 k4 k5 k6 HF
                  generalize (e.k : Int) = kz at ck q1 q2 q3 q4 q5 q6
                  rw [ho.out] at HFV
                  have HR := Lib.hid HFV
                  clear HFV
                  clear HT HN AM RZ FZ RF hs ho
                  go_wp2_with fail
                  go_ret
                  exact ⟨by rw [← HR.out]; rfl, HB1.out⟩
                case neg =>
                  have HFV := HF.out
                  rw [if_neg k1, if_neg k2, if_neg k3, if_neg k4, if_neg k5, if_neg k6] at HFV
                  have q1 : ((e.k : Int) == 1) = false := HN.out 1 k1
                  have q2 : ((e.k : Int) == 2) = false := HN.out 2 k2
                  have q3 : ((e.k : Int) == 3) = false := HN.out 3 k3
                  have q4 : ((e.k : Int) == 4) = false := HN.out 4 k4
                  have q5 : ((e.k : Int) == 5) = false := HN.out 5 k5
                  have q6 : ((e.k : Int) == 6) = false := HN.out 6 k6
                  have HR : Hid (((e.k : Int) == 7) = R) := by
                    show _ = _
                    rw [← HFV]
                    by_cases k7 : e.k = 7
                    · rw [show (e.k == 7) = true by simpa using k7]; exact HT.out 7 k7
                    · rw [show (e.k == 7) = false by simpa using k7]; exact HN.out 7 k7
                  clear k1 k2 k3 k4 k5 k6 HF HFV
                  generalize (e.k : Int) = kz at ck HR q1 q2 q3 q4 q5 q6
                  clear HT HN AM RZ FZ RF hs ho
                  go_wp2_with fail
                  go_ret
                  exact ⟨by rw [← HR.out]; first | rfl | simp, HB1.out⟩
end Go.Proofs.Ytjihbjjekhncaaa
