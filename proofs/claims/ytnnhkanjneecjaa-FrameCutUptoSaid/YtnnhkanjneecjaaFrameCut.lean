/-
  FrameCut, up to a bulk of 1048576 of what comes in: of frames that were cut anywhere all records are told whose frames stand whole, and no others; with a byte of one turned all ahead of it are told, and not it. The bulk's bound is the only condition.
-/
import Derived.Test.YtnnhkanjneecjaaRows
import Derived.WalkKit
import Derived.ProofKit
import Derived.OpenShut
import Derived.ShutString
import Derived.ChangeOld
import Derived.Below
import Derived.JoinedCond
import Derived.Test.YtnnhkanjneecjaaFrT
namespace Go.Proofs.Ytnnhkanjneecjaa.frameCut
open Go.ChangeShapes Go.WideShapes Go.ChangeAt Go.RowKit
open Go.ChangeMaps (open_string shut_string)
set_option linter.unusedVariables false

theorem own : ownKnob Try.prog.godebug = none := by kernel_rfl
theorem laidOut : laidOutB Try.prog = true := by kernel_rfl

theorem encF_mass (l : List (List UInt8)) : (encF l).length ≤ 8 * mass l := by
  induction l with
  | nil => simp [encF]
  | cons s l ih =>
    have e2 : mass (s :: l) = s.length + 1 + mass l := by simp [mass]
    rw [encF_cons, List.length_append, fr_len, e2]
    omega

set_option maxRecDepth 100000 in
set_option maxHeartbeats 4000000 in
theorem walk (A0 : Option Addr) (b0 : List (List UInt8)) (c0 : Nat) (a1 : Int) (a2 : Int) (a3 : Int) (w : World) (w0 : Strs w w.heap.size A0 b0) (u0 : mass b0 ≤ 1048576) (l0 : b0.length ≤ c0) (m0 : c0 ≤ maxLen) (w1 : (Lit.int .u16 a1).wf = true) (w2 : (Lit.int .u16 a2).wf = true) (w3 : (Lit.int .u8 a3).wf = true) :
    Calls Try.prog 8 #[.slice A0 b0.length c0, .int .u16 a1, .int .u16 a2, .int .u8 a3] w fun e w' => e = .returned (.bool true) ∧ Below w.heap.size w w' := by
  have d1 := wf_u16 w1
  have d2 := wf_u16 w2
  have d3 := wf_u8 w3
  clear w1 w2 w3
  obtain ⟨z1, rfl⟩ := Int.eq_ofNat_of_zero_le d1.1
  obtain ⟨z2, rfl⟩ := Int.eq_ofNat_of_zero_le d2.1
  obtain ⟨d, rfl⟩ : ∃ d : UInt8, a3 = (d.toNat : Int) := ⟨UInt8.ofNat a3.toNat, by simp; omega⟩
  have hz1 : z1 ≤ 65535 := by omega
  have hz2 : z2 ≤ 65535 := by omega
  clear d1 d2 d3
  have hml := mass_len b0
  by_cases hm : 4096 < mass b0
  · go_enter Try.func8, Try.ntmps8
    go_wp2_with fail
    refine (ovast_any A0 _ c0 b0 _ w0 rfl u0).mono ?_
    rintro e W1 ⟨rfl, rfl⟩
    rw [decide_eq_true hm]
    go_wp2_with fail
    refine (fworks_any _).mono ?_
    rintro e W2 ⟨rfl, hb2⟩
    go_wp2_with fail
    go_ret
    exact ⟨rfl, hb2⟩
  have hal : ∀ s ∈ b0, s.length ≤ 4096 := fun s hs => by have := mass_mem b0 s hs; omega
  have hNN : (encF b0).length ≤ 40000 := by
    have : (encF b0).length ≤ 8 * mass b0 := encF_mass b0
    omega
  have e1 : putFB [] b0 = encF b0 := by unfold putFB; rw [okF_all hal]; rfl
  have e2 : putFE b0 = 0 := by unfold putFE; rw [okF_all hal]; rfl
  go_enter Try.func8, Try.ntmps8
  go_wp2_with fail
  refine (ovast_any A0 _ c0 b0 _ w0 rfl u0).mono ?_
  rintro e W1 ⟨rfl, rfl⟩
  rw [decide_eq_false hm]
  go_wp2_with fail
  refine (fput_any none A0 0 0 b0.length c0 [] b0 w (no_bytes _ _ _) rfl w0 rfl (by simp; omega) (by omega)).mono ?_
  rintro e W1 ⟨A1, n1, c1, rfl, hn1, hown1, hb1⟩
  rw [e1] at hn1 hown1
  rw [e2]
  clear e1 e2
  have N1 := Lib.hid hn1
  have hs1 := hb1.size
  have x1 := (own_open hown1).1
  have hc1 := (own_open hown1).2.1
  have hm1 := (own_open hown1).2.2.1
  have k1 : z1 % (n1 + 1) < n1 + 1 := Nat.mod_lt _ (by omega)
  have k2 : (z1 : Int) % ((n1 : Int) + 1) = ((z1 % (n1 + 1) : Nat) : Int) := by rw [Int.natCast_emod, Int.natCast_add]; rfl
  generalize z1 % (n1 + 1) = K at k1 k2
  have hn1L : n1 ≤ 40000 := by omega
  have hK : K ≤ (encF b0).length := by omega
  have y1 := bytes_take x1 K hK
  have hyl : K = ((encF b0).take K).length := by rw [List.length_take]; omega
  have YL := Lib.hid hyl
  have HAL := Lib.hid hal
  clear hn1 hyl hal
  go_wp2_with fail
  refine (fall_any A1 K c1 ((encF b0).take K) W1 y1 YL.out (by rw [← YL.out]; omega)).mono ?_
  rintro e W2 ⟨A2, n2, c2, rfl, hn2, hown2, hb2⟩
  have hb12 := hb1.trans (hb2.mono hs1)
  have hs2 := hb12.size
  have hown1' := own_below hown1 hb2
  have N2 := Lib.hid hn2
  have O2 := Lib.hid hown2
  clear hn2 hown1 hown2 hb2 x1 y1
  generalize hE2 : (falR ((encF b0).take K)).2 = E2
  have E2H := Lib.hid hE2
  clear hE2
  go_wp2_with fail
  go_loopw [14, 15] (fun nn wh wr => ∃ j : Nat, j ≤ b0.length ∧ nn = .int .i64 (j : Int) ∧ wh = .int .i64 (((encF (b0.take j)).length : Nat) : Int) ∧ (encF (b0.take j)).length ≤ K ∧ W2 = wr) (fun nn _ _ => b0.length - (intOf nn).toNat)
  case atStart => exact ⟨0, by omega, rfl, by simp [encF], by simp [encF], rfl⟩
  case round =>
    obtain ⟨j, hj, rfl, rfl, hjK, rfl⟩ := hrel
    have hcases : (∃ h : j < b0.length, (encF (b0.take j)).length + 8 + b0[j].length ≤ K) ∨ (∃ h : j < b0.length, ¬ (encF (b0.take j)).length + 8 + b0[j].length ≤ K) ∨ j = b0.length := by
      by_cases h : j < b0.length
      · by_cases h2 : (encF (b0.take j)).length + 8 + b0[j].length ≤ K
        · exact .inl ⟨h, h2⟩
        · exact .inr (.inl ⟨h, h2⟩)
      · exact .inr (.inr (by omega))
    rcases hcases with ⟨hlt, hc⟩ | ⟨hlt, hc⟩ | hend
    case inl =>
      have hen : (encF (b0.take (j + 1))).length = (encF (b0.take j)).length + (8 + b0[j].length) := by rw [encF_take b0 j hlt, List.length_append, fr_len]
      obtain ⟨b, off, Ai, ci, rfl, hB, hcw, hBi, hli, hmi⟩ := w0.at_ hlt
      have hck := (hb12.cell (p := ⟨b, off + j, none⟩) hB).trans hcw
      have HEN := Lib.hid hen
      clear hen hcw hBi
      generalize b0[j].length = z at hck hli HEN hc
      have hc' : ((encF (b0.take j)).length : Int) + 8 + (z : Int) ≤ (K : Int) := by omega
      go_wp2_with fail
      go_roundw
      case rel => exact ⟨j + 1, by omega, by go_num, by rw [HEN.out]; go_num, by rw [HEN.out]; omega, trivial⟩
      case measure => simp [intOf]; omega
    case' inr.inl =>
      have hen : (encF (b0.take (j + 1))).length = (encF (b0.take j)).length + (8 + b0[j].length) := by rw [encF_take b0 j hlt, List.length_append, fr_len]
      have CUT := Lib.hid (falR_cut b0 HAL.out j K hj hjK (.inl (by omega)))
      obtain ⟨b, off, Ai, ci, rfl, hB, hcw, hBi, hli, hmi⟩ := w0.at_ hlt
      have hck := (hb12.cell (p := ⟨b, off + j, none⟩) hB).trans hcw
      have hzK := HAL.out b0[j] (List.getElem_mem hlt)
      clear hen hcw hBi
      generalize b0[j].length = z at hck hli hc hzK
      have hc' : ¬ ((encF (b0.take j)).length : Int) + 8 + (z : Int) ≤ (K : Int) := by omega
    case' inr.inr =>
      have CUT := Lib.hid (falR_cut b0 HAL.out j K hj hjK (.inr ⟨by rw [hend, List.take_length] at hjK; omega, hend⟩))
      have hlt : ¬ (j : Int) < (b0.length : Int) := by omega
      clear hend
    all_goals
      have hE : E2 = (encF (b0.take j)).length := by rw [← E2H.out, CUT.out]
      have o2 := O2.out
      have n2' := N2.out
      rw [CUT.out] at o2 n2'
      have N2' := Lib.hid n2'
      have z2' := o2.strs.1
      have zk := strs_take ((w0.below hb12).more hs2) j hj
      have hkl : j = (b0.take j).length := by rw [List.length_take]; omega
      have KL := Lib.hid hkl
      have hE' : ((E2 : Int) != ((encF (b0.take j)).length : Int)) = false := by rw [hE]; simp
      have HKM : Hid ((b0.take j).length ≤ maxLen) := by show _ ≤ _; rw [← hkl]; unfold maxLen; omega
      clear hE o2 n2' hkl
      go_wp2_with fail
      refine (same_yes A2 _ n2 j c2 c0 (b0.take j) W2 z2' zk N2'.out KL.out HKM.out).mono ?_
      rintro e W3 ⟨rfl, hb3⟩
      have hb13 := hb12.trans (hb3.mono hs2)
      have hs3 := hb13.size
      have hown3 := own_below hown1' hb3
      clear z2' zk
      by_cases hn0 : (n1 : Int) = 0
      · go_wp2_with fail
        refine (fworks_any _).mono ?_
        rintro e W8 ⟨rfl, hb8⟩
        go_wp2_with fail
        go_ret
        exact ⟨rfl, hb13.trans (hb8.mono hs3)⟩
      by_cases hd : d = 0
      · have hd' : (d.toNat : Int) = 0 := by rw [hd]; rfl
        go_wp2_with fail
        refine (fworks_any _).mono ?_
        rintro e W8 ⟨rfl, hb8⟩
        go_wp2_with fail
        go_ret
        exact ⟨rfl, hb13.trans (hb8.mono hs3)⟩
      have hd' : ¬ (d.toNat : Int) = 0 := by
        intro h; apply hd; exact UInt8.toNat_inj.1 (by have : d.toNat = 0 := by omega
                                                       rw [this]; rfl)
      have hd3 : ((d.toNat : Int) == 0) = false := by simp only [beq_eq_false_iff_ne]; exact hd'
      have hn3 : ((n1 : Int) == 0) = false := by simp only [beq_eq_false_iff_ne]; exact hn0
      have p1 : z2 % n1 < n1 := Nat.mod_lt _ (by omega)
      have p2 : (z2 : Int) % (n1 : Int) = ((z2 % n1 : Nat) : Int) := by rw [Int.natCast_emod]
      generalize z2 % n1 = p at p1 p2
      have hn1B : n1 = (encF b0).length := N1.out
      have hpB : p < (encF b0).length := by omega
      clear hn1B
      obtain ⟨g, rfl, hg1, hrow, cc, cf, c4m, c4x, n4B⟩ := own_at hown3 hpB
      have hr5 := hrow.set_ hpB ((encF b0)[p] ^^^ d) _ (val_xor (encF b0)[p] d)
      have hb5 := hb13.setCell (p := ⟨g, p, none⟩) hg1 (Value.int .u8 (bits .xor .u8 ((encF b0)[p].toNat : Int) (d.toNat : Int)))
      have ANY := fun i h h1 h2 => falR_any b0 i p d HAL.out h h1 h2 hpB hd
      generalize (encF b0)[p] = cB at *
      have FB := Lib.hid ANY
      clear ANY
      go_wp2_with fail
      have hs5 := hb5.size
      have hlenB : ((encF b0).set p (cB ^^^ d)).length = (encF b0).length := by rw [List.length_set]
      have hcell0 : ∀ (i : Nat) (b : Nat) (off : Nat) (v : Value), b < w.heap.size → w.cell? ⟨b, off + i, none⟩ = some v → (W3.setCell ⟨g, p, none⟩ (Value.int .u8 (bits .xor .u8 (cB.toNat : Int) (d.toNat : Int)))).cell? ⟨b, off + i, none⟩ = some v := fun i b off v hb hv => (hb5.cell (p := ⟨b, off + i, none⟩) hb).trans hv
      generalize W3.setCell ⟨g, p, none⟩ (Value.int .u8 (bits .xor .u8 (cB.toNat : Int) (d.toNat : Int))) = W5 at hr5 hb5 hs5 hcell0 ⊢
      have r5 := hr5.bytes
      have LB := Lib.hid hlenB
      have C0 := Lib.hid hcell0
      clear hcell0 hlenB hown3 hown1' cc cf hrow hb3 hr5
      generalize hB2 : (encF b0).set p (cB ^^^ d) = B2 at r5 LB FB
      clear hB2
      go_loopw [14, 15] (fun nn wh wr => ∃ i : Nat, i ≤ b0.length ∧ nn = .int .i64 (i : Int) ∧ wh = .int .i64 (((encF (b0.take i)).length : Nat) : Int) ∧ (encF (b0.take i)).length ≤ p ∧ W5 = wr) (fun nn _ _ => b0.length - (intOf nn).toNat)
      case atStart => exact ⟨0, by omega, rfl, by simp [encF], by simp [encF], rfl⟩
      case round =>
        obtain ⟨i, hi, rfl, rfl, hip, rfl⟩ := hrel
        have hlt2 : i < b0.length := by
          rcases Nat.lt_or_ge i b0.length with h | h
          · exact h
          · have : i = b0.length := by omega
            rw [this, List.take_length] at hip
            omega
        have hen2 : (encF (b0.take (i + 1))).length = (encF (b0.take i)).length + (8 + b0[i].length) := by rw [encF_take b0 i hlt2, List.length_append, fr_len]
        have hz4 := HAL.out b0[i] (List.getElem_mem hlt2)
        by_cases hc2 : (encF (b0.take i)).length + 8 + b0[i].length ≤ p
        · obtain ⟨b', off', Ai', ci', hA', hB', hcw', hBi', hli', hmi'⟩ := w0.at_ hlt2
          cases hA'
          have hck' := C0.out i _ _ _ hB' hcw'
          have HEN := Lib.hid hen2
          clear hen2 hcw' hBi'
          generalize b0[i].length = z' at hck' hli' HEN hc2 hz4
          have hc2' : ((encF (b0.take i)).length : Int) + 8 + (z' : Int) ≤ (p : Int) := by omega
          go_wp2_with fail
          go_roundw
          case rel => exact ⟨i + 1, by omega, by go_num, by rw [HEN.out]; go_num, by rw [HEN.out]; omega, trivial⟩
          case measure => simp [intOf]; omega
        · obtain ⟨mm, E5, hF5, hE5, hfin⟩ := FB.out i hlt2 hip (by omega)
          obtain ⟨b', off', Ai', ci', hA', hB', hcw', hBi', hli', hmi'⟩ := w0.at_ hlt2
          have hw0' := w0
          cases hA'
          have hck' := C0.out i _ _ _ hB' hcw'
          clear hen2 hcw' hBi'
          generalize b0[i].length = z' at hck' hli' hc2 hz4
          have hc2' : ¬ ((encF (b0.take i)).length : Int) + 8 + (z' : Int) ≤ (p : Int) := by omega
          have hn1L' : n1 = B2.length := by rw [LB.out]; exact N1.out
          have NB := Lib.hid hn1L'
          have F5 := Lib.hid hF5
          have FIN := Lib.hid hfin
          clear hn1L' hF5 hfin
          go_wp2_with fail
          refine (fall_any (some ⟨g, 0, none⟩) n1 c1 B2 W5 r5 NB.out (by rw [LB.out]; omega)).mono ?_
          rintro e W6 ⟨A6, n6, c6, rfl, hn6, hown6, hb6⟩
          rw [F5.out] at hn6 hown6 ⊢
          have hb16 := hb5.trans (hb6.mono hs5)
          have hs6 := hb16.size
          have z6 := strs_take hown6.strs.1 i (by show i ≤ (b0.take i ++ mm).length; rw [List.length_append, List.length_take]; omega)
          have e6 : (b0.take i ++ mm, E5).1.take i = b0.take i := take_app_take b0 mm i hi
          rw [e6] at z6
          have zi := strs_take ((w0.below hb16).more hs6) i hi
          have hkl : i = (b0.take i).length := by rw [List.length_take]; omega
          have KL2 := Lib.hid hkl
          have HKM2 : Hid ((b0.take i).length ≤ maxLen) := by show _ ≤ _; rw [← hkl]; unfold maxLen; omega
          have hn6' : n6 = i + mm.length := by
            have : n6 = (b0.take i ++ mm).length := hn6
            rw [this, List.length_append, ← hkl]
          have hi6 : ¬ (n6 : Int) < (i : Int) := by omega
          have hi7 : i ≤ n6 := by omega
          have hc6 := hown6.strs.2.2.1
          have NM := Lib.hid hn6'
          have hEf : ¬ (E5 : Int) < ((encF (b0.take i)).length : Int) := by omega
          have hi8 : decide ((n6 : Int) < (i : Int)) = false := decide_eq_false hi6
          have hEf2 : decide ((E5 : Int) < ((encF (b0.take i)).length : Int)) = false := decide_eq_false hEf
          clear hn6 hown6 hkl hn6' e6 r5
          go_wp2_with fail
          have g1 : ¬ (n6 : Int) < (i : Int) := by omega
          have g2 : ¬ n6 < i := by omega
          have g3 : decide (n6 < i) = false := decide_eq_false g2
          have g4 : ¬ (E5 : Int) < ((encF (b0.take i)).length : Int) := by omega
          have g5 : ¬ E5 < (encF (b0.take i)).length := by omega
          have g6 : decide (E5 < (encF (b0.take i)).length) = false := decide_eq_false g5
          go_region_held (fun _ => True) (trivial) (first | (go_at_call 28; refine (same_yes A6 _ i i c6 c0 (b0.take i) _ (by exact z6) (by exact zi) KL2.out KL2.out HKM2.out).mono ?_; rintro e W7 ⟨rfl, hb7⟩))
          all_goals
            have hb17 := hb16.trans ((Below.refl w.heap.size W6).drew.trans (hb7.mono hs6))
            have hs7 := hb17.size
            clear z6 zi
            by_cases h4 : (encF (b0.take i)).length + 4 ≤ p
            · obtain ⟨hmm, hE⟩ := FIN.out h4
              have h4' : ¬ (p : Int) < ((encF (b0.take i)).length : Int) + 4 := by omega
              have hn6i : n6 = i := by rw [NM.out, hmm]; rfl
              subst hn6i hE
              go_wp2_with fail
              refine (fworks_any _).mono ?_
              rintro e W8 ⟨rfl, hb8⟩
              go_wp2_with fail
              go_ret
              exact ⟨rfl, hb17.trans (hb8.mono hs7)⟩
            · have h4' : (p : Int) < ((encF (b0.take i)).length : Int) + 4 := by omega
              go_wp2_with fail
              refine (fworks_any _).mono ?_
              rintro e W8 ⟨rfl, hb8⟩
              go_wp2_with fail
              go_ret
              exact ⟨rfl, hb17.trans (hb8.mono hs7)⟩

set_option maxRecDepth 100000 in
theorem lifted (os : Os) (started : os.Started) (H : Type) (enc : TypeId × Value → H) (F : Stop.Interp) :
    ReturnsInHanded {} Try.checked os 8 .any ((Rows.OpenSpec.upto Rows.frameCutSpec).pre6 enc Try.prog Try.f8 Rows.frameCutUptoRow.domain false) (((Rows.OpenSpec.upto Rows.frameCutSpec).at F).post enc Try.prog Try.f8 false true false false) := by
  refine returnsInHanded_of_cond (C := Try.checked) (s := Rows.OpenSpec.upto Rows.frameCutSpec) (k := Rows.uptoSmall) rfl own started (by kernel_rfl) Try.func8
    (OpenSpec.witness (enc := enc) (C := Try.checked) (s := Rows.OpenSpec.upto Rows.frameCutSpec) (k := Rows.uptoSmall) rfl false ⟨#[], #[.slice none 0 0, .int .u16 0, .int .u16 0, .int .u8 0], []⟩ 8 (by kernel_rfl) (by kernel_rfl) (by kernel_rfl)
      (x := ([.nil, .lit (.int .u16 0), .lit (.int .u16 0), .lit (.int .u8 0)], [], [])) (by kernel_rfl) rfl (by kernel_rfl)) ?_
  intro W base args ds gs before hval0 hW hcnd hk _
  have hval : ∀ (j : Nat) t v, Try.f8.params[j]? = some t → args[j]? = some v → Value.okWide Try.prog W .any base t v := hval0
  have hW' : DataW.Whole enc Try.prog Try.f8.params.toList Rows.frameCutSpec.vars false W args.toList ds gs before := hW
  show Calls Try.prog 8 args W fun e W' => ∃ v, e = .returned v ∧ Rows.frameCutSpec.post enc Try.prog Try.f8 false true false false W args v W'
  obtain ⟨p, q, hA0, hV, rfl, hfz, hnd⟩ := hW
  have hA : DataW.TrodAll enc Try.prog W 0 (fun _ => true) true Try.f8.params.toList args.toList ds p := hA0
  rw [Try.params8] at hA hval
  obtain ⟨v0, vs0, d0, ds0, p0, q0, hargs, rfl, rfl, h0, r0⟩ := trodAll_cons hA
  obtain ⟨v1, vs1, d1, ds1, p1, q1, rfl, rfl, rfl, h1, r1⟩ := trodAll_cons r0
  obtain ⟨v2, vs2, d2, ds2, p2, q2, rfl, rfl, rfl, h2, r2⟩ := trodAll_cons r1
  obtain ⟨v3, vs3, d3, ds3, p3, q3, rfl, rfl, rfl, h3, r3⟩ := trodAll_cons r2
  obtain ⟨rfl, rfl, rfl⟩ := trodAll_nil r3
  obtain rfl : args = #[v0, v1, v2, v3] := by cases args; simp_all
  obtain ⟨rfl, rfl⟩ := trodVars_none hV
  have hk' : Rows.uptoSmall H ([d0, d1, d2, d3] ++ []) = true := hk
  obtain ⟨A0, n0, c0, rfl⟩ := okWide_slice Try.underlying33 (hval 0 33 v0 rfl rfl)
  have k0 := h0
  have lt0 : ∀ x ∈ p0, x.block < W.heap.size := by obtain ⟨m, hm⟩ := k0; exact DataW.trod_lt m _ _ _ hm
  obtain ⟨b0, rfl, w0, u0, l0, m0⟩ : ∃ l : List (List UInt8), n0 = l.length ∧ Strs W W.heap.size A0 l ∧ mass l ≤ 1048576 ∧ n0 ≤ c0 ∧ c0 ≤ maxLen := by
    obtain ⟨fuel, hf⟩ := h0
    rcases Deep.open_int_rows Try.underlying33 Try.underlying22 Try.underlying5 (by kernel_rfl) (by kernel_rfl) hf with ⟨hcs, _⟩ | ⟨a, len, cap, A, L, C, Z, hcs, _, hl, hm, hdx, hcell⟩
    · simp [Value.cells] at hcs
      obtain ⟨rfl, rfl, rfl⟩ := hcs
      exact ⟨[], rfl, Strs.none_, by decide, Nat.le_refl _, by decide⟩
    · simp [Value.cells] at hcs
      obtain ⟨rfl, rfl, rfl⟩ := hcs
      obtain ⟨hd, _⟩ := Prod.mk.inj hdx
      obtain ⟨l, h1, h2⟩ := strs_of hl (fun r hr => by
        obtain ⟨x1, x2, x3, x4, x5, x6, x7⟩ := hcell r hr
        exact ⟨x1, x2, x3, x4, x5, x6, fun a' ha => (x7 a' ha).2⟩)
      refine ⟨l, h1, h2, ?_, hl, hm⟩
      rw [h1] at hd hl
      exact rows_bulk hk' (j := 0) (congrArg some hd) h2 (fun r hr => by
        obtain ⟨x1, x2, _, x4, _, x6, _⟩ := hcell r (by omega)
        exact ⟨x1, x2, x4, x6⟩)
  obtain ⟨a1, rfl, rfl, rfl, w1⟩ := open_int Try.underlying61 (hval 1 61 v1 rfl rfl) h1
  obtain ⟨a2, rfl, rfl, rfl, w2⟩ := open_int Try.underlying61 (hval 2 61 v2 rfl rfl) h2
  obtain ⟨a3, rfl, rfl, rfl, w3⟩ := open_int Try.underlying5 (hval 3 5 v3 rfl rfl) h3
  clear hA0 hval0
  refine (walk A0 b0 c0 a1 a2 a3 W w0 u0 l0 m0 w1 w2 w3).mono fun e W' ⟨he, bel⟩ => ?_
  subst he
  exact ⟨_, rfl, _, _, _, [], _, [], hW', trodAll_mk1 (shut_bool Try.underlying4 _), (trodAll_cons_mk (Below.trod laidOut (by kernel_rfl) (of_decide_eq_true (by kernel_rfl)) k0 bel lt0) (trodAll_cons_mk (shut_int Try.underlying61 w1) (trodAll_cons_mk (shut_int Try.underlying61 w2) (trodAll_cons_mk (shut_int Try.underlying5 w3) trodAll_mk0)))), rfl, bel.frame _, fun h => by cases h⟩

theorem proved : Rows.FrameCutUptoSaid :=
  OpenClaim.holds_of_cond 8 Try.f8 rfl rfl rfl rfl rfl rfl rfl ⟨rfl, rfl, rfl, rfl, rfl⟩ rfl rfl rfl rfl rfl (by kernel_rfl) Try.func8 (by kernel_rfl)
    (of_decide_eq_true (by kernel_rfl)) (by unfold Func.isWrapper; first | (rw [if_pos (by decide +kernel)]; kernel_rfl) | (rw [if_neg (by decide +kernel)]; exact ⟨rfl, rfl⟩))
    (fun os started H enc _ F => lifted os started H enc F)
#print axioms proved
end Go.Proofs.Ytnnhkanjneecjaa.frameCut
