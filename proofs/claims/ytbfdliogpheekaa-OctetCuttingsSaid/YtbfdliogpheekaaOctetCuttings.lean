/-
  OctetCuttings: what strings are put is split just at their ends, cut elsewhere it is none; with less room than one has it is ErrMany. For every input, without a condition.
-/
import Derived.Test.YtbfdliogpheekaaRows
import Derived.WalkKit
import Derived.ProofKit
import Derived.OpenShut
import Derived.ShutString
import Derived.ChangeOld
import Derived.Below
import Derived.Test.YtbfdliogpheekaaOctN
import Derived.Test.YtbfdliogpheekaaKitE
namespace Go.Proofs.Ytbfdliogpheekaa.octetCuttings
open Go.ChangeShapes Go.WideShapes Go.ChangeAt Go.RowKit
open Go.ChangeMaps (open_string shut_string)
set_option linter.unusedVariables false

theorem own : ownKnob Try.prog.godebug = none := by kernel_rfl
theorem laidOut : laidOutB Try.prog = true := by kernel_rfl

def tot (l : List (List UInt8)) : Nat := (l.map List.length).sum
theorem tot_succ (l : List (List UInt8)) (k : Nat) (h : k < l.length) : tot (l.take (k + 1)) = tot (l.take k) + l[k].length := by
  unfold tot; rw [List.take_succ_eq_append_getElem h, List.map_append, List.sum_append]; simp
theorem tot_le (l : List (List UInt8)) (hr : ∀ s ∈ l, s.length ≤ 140737488351232) : ∀ k, k ≤ l.length → tot (l.take k) ≤ k * 140737488351232
  | 0, _ => by simp [tot]
  | k + 1, hk => by
    rw [tot_succ l k (by omega)]
    have h1 := tot_le l hr k (by omega)
    have h2 := hr l[k] (List.getElem_mem (by omega))
    omega
theorem enc_tot (l : List (List UInt8)) : (enc l).length = 4 * l.length + tot l := by
  induction l with
  | nil => rfl
  | cons s l ih =>
    have e : enc (s :: l) = be 4 s.length ++ s ++ enc l := by simp [enc]
    rw [e, List.length_append, List.length_append, be_len, ih, List.length_cons]
    simp [tot]
    omega
theorem mem_tot (l : List (List UInt8)) : ∀ s ∈ l, s.length ≤ tot l := by
  induction l with
  | nil => intro s hs; cases hs
  | cons t l ih =>
    intro s hs
    have e : tot (t :: l) = t.length + tot l := by simp [tot]
    rcases List.mem_cons.1 hs with rfl | h
    · omega
    · have := ih s h; omega
theorem strs_take {w : World} {B : Nat} {A : Option Addr} {l : List (List UInt8)} (h : Strs w B A l) (k : Nat) (hk : k ≤ l.length) : Strs w B A (l.take k) := by
  obtain ⟨V, C, h1, h2⟩ := h
  have hget : ∀ (i : Nat) (bs : List UInt8), (l.take k)[i]? = some bs → l[i]? = some bs := by
    intro i bs hi
    rw [List.getElem?_take] at hi
    split at hi
    · exact hi
    · cases hi
  refine ⟨V, C, fun h0 => ?_, fun i bs hi => h2 i bs (hget i bs hi)⟩
  obtain ⟨b, off, hA, hb, hc⟩ := h1 (by rw [List.length_take] at h0; omega)
  exact ⟨b, off, hA, hb, fun i bs hi => hc i bs (hget i bs hi)⟩
theorem bytes_take {w : World} {B : Nat} {A : Option Addr} {bs : List UInt8} (h : Bytes w B A bs) (k : Nat) (hk : k ≤ bs.length) : Bytes w B A (bs.take k) := by
  have hl : (bs.take k).length = k := by rw [List.length_take]; omega
  refine ⟨by rw [bv_len, Nat.mul_one], fun h0 => ?_⟩
  obtain ⟨ad, hA, hB, hc⟩ := h.2 (by omega)
  refine ⟨ad, hA, hB, fun j u hu => hc j u ?_⟩
  have hj : j < k := by
    rcases Nat.lt_or_ge j k with h' | h'
    · exact h'
    · rw [List.getElem?_eq_none (by rw [bv_len]; omega)] at hu; cases hu
  rw [bv_at _ j (by omega)] at hu
  rw [bv_at _ j (by omega), ← hu]
  simp
/-- do the first k fit? -/
def fits (l : List (List UInt8)) (q : Nat) (k : Nat) : Bool := (l.take k).all fun s => decide (s.length ≤ q)
theorem fits_succ (l : List (List UInt8)) (q k : Nat) (h : k < l.length) : fits l q (k + 1) = (fits l q k && decide (l[k].length ≤ q)) := by
  unfold fits; rw [List.take_succ_eq_append_getElem h, List.all_append]; simp
theorem fits_all (l : List (List UInt8)) (q : Nat) (h : fits l q l.length = true) : ∀ i (h : i < l.length), (l[i].length : Int) ≤ (q : Int) := by
  intro i hi
  unfold fits at h
  rw [List.take_length, List.all_eq_true] at h
  have := h l[i] (List.getElem_mem hi)
  have := of_decide_eq_true this
  omega
theorem first_bad (l : List (List UInt8)) (q : Nat) : ∀ k, k ≤ l.length → fits l q k = false → ∃ j, ∃ h : j < l.length, (∀ i (h : i < l.length), i < j → (l[i].length : Int) ≤ (q : Int)) ∧ (q : Int) < (l[j].length : Int)
  | 0, _, h => by simp [fits] at h
  | k + 1, hk, h => by
    have hkl : k < l.length := by omega
    cases hf : fits l q k with
    | false => exact first_bad l q k (by omega) hf
    | true =>
      rw [fits_succ l q k hkl, hf, Bool.true_and] at h
      have h1 := of_decide_eq_false h
      refine ⟨k, hkl, fun i hi hik => ?_, by omega⟩
      unfold fits at hf
      rw [List.all_eq_true] at hf
      have hm : l[i] ∈ l.take k := by
        rw [List.mem_take_iff_getElem]
        exact ⟨i, by omega, rfl⟩
      have := of_decide_eq_true (hf l[i] hm)
      omega

set_option maxRecDepth 100000 in
set_option maxHeartbeats 4000000 in
theorem walk (A0 : Option Addr) (b0 : List (List UInt8)) (c0 : Nat) (a1 : Int) (a2 : Int) (w : World) (w0 : Strs w w.heap.size A0 b0) (y0 : ∀ s ∈ b0, s.length ≤ 140737488351232) (l0 : b0.length ≤ c0) (m0 : c0 ≤ maxLen) (w1 : (Lit.int .u16 a1).wf = true) (w2 : (Lit.int .i64 a2).wf = true) :
    Calls Try.prog 7 #[.slice A0 b0.length c0, .int .u16 a1, .int .i64 a2] w fun e w' => e = .returned (.bool true) ∧ Below w.heap.size w w' := by
  have d1 := wf_u16 w1
  have d2 := wf_i64 w2
  clear w1 w2
  obtain ⟨cut, rfl⟩ := Int.eq_ofNat_of_zero_le d1.1
  by_cases h40 : 40 < b0.length
  · go_enter Try.func7, Try.ntmps7
    go_wp2_with fail
    refine (oworks_any _).mono ?_
    rintro e w2 ⟨rfl, hb2⟩
    go_wp2_with fail
    go_ret
    exact ⟨rfl, hb2⟩
  · go_enter Try.func7, Try.ntmps7
    go_wp2_with fail
    go_loop [7, 8] (fun t i => ∃ k : Nat, k ≤ b0.length ∧ i = .int .i64 k ∧ t = .int .i64 ((tot (b0.take k) : Nat) : Int)) (fun _ i => b0.length - (intOf i).toNat)
    case atStart => exact ⟨0, by omega, rfl, rfl⟩
    case round =>
      obtain ⟨k, hk, rfl, rfl⟩ := hrel
      have htl := tot_le b0 y0 k hk
      by_cases hlt : k < b0.length
      · obtain ⟨b, off, Ai, ci, rfl, hB, hc, hBi, hli, hmi⟩ := w0.at_ hlt
        have hz := y0 b0[k] (List.getElem_mem hlt)
        have hts := tot_succ b0 k hlt
        generalize b0[k] = z at hc hBi hli hz hts
        have HT := Lib.hid hts
        clear hts
        go_wp2_with fail
        go_round
        case rel => exact ⟨k + 1, by omega, by go_num, by rw [HT.out]; go_num⟩
        case measure => simp [intOf]; omega
      · obtain rfl : k = b0.length := by omega
        rw [List.take_length] at htl ⊢
        by_cases hv : 4096 < tot b0 ∨ a2 < 0 ∨ 4096 < a2
        · by_cases hv1 : 4096 < tot b0
          · have hv1' : (4096 : Int) < ((tot b0 : Nat) : Int) := by omega
            go_wp2_with fail
            refine (oworks_any _).mono ?_
            rintro e w2 ⟨rfl, hb2⟩
            go_wp2_with fail
            go_ret
            exact ⟨rfl, hb2⟩
          · have hv1' : ¬ (4096 : Int) < ((tot b0 : Nat) : Int) := by omega
            by_cases hv2 : a2 < 0
            · go_wp2_with fail
              refine (oworks_any _).mono ?_
              rintro e w2 ⟨rfl, hb2⟩
              go_wp2_with fail
              go_ret
              exact ⟨rfl, hb2⟩
            · have hv3 : 4096 < a2 := by omega
              go_wp2_with fail
              refine (oworks_any _).mono ?_
              rintro e w2 ⟨rfl, hb2⟩
              go_wp2_with fail
              go_ret
              exact ⟨rfl, hb2⟩
        · have hv1 : ¬ 4096 < tot b0 := by omega
          have hv1' : ¬ (4096 : Int) < ((tot b0 : Nat) : Int) := by omega
          obtain ⟨q, rfl⟩ := Int.eq_ofNat_of_zero_le (show 0 ≤ a2 by omega)
          have hq : q ≤ 4096 := by omega
          have hlen := enc_tot b0
          have hel : (enc b0).length ≤ 4256 := by omega
          have hms : ∀ s ∈ b0, s.length ≤ 4096 := fun s hs => by have := mem_tot b0 s hs; omega
          have hms4 : ∀ s ∈ b0, s.length ≤ 4194304 := fun s hs => by have := hms s hs; omega
          have HLEN := Lib.hid hlen
          have HMS := Lib.hid hms
          have HMS4 := Lib.hid hms4
          clear hlen hms hms4 hv
          go_wp2_with fail
          refine (strings_ok A0 _ c0 b0 _ w0 rfl (by unfold maxLen; omega) HMS4.out (by omega)).mono ?_
          rintro e w1 ⟨A9, n9, c9, rfl, hn9, hown9, hb1⟩
          have hB9 := (own_open hown9).1
          have hle9 := (own_open hown9).2.1
          have hmx9 := (own_open hown9).2.2.1
          clear hown9
          obtain ⟨K, hK⟩ : ∃ K : Nat, (cut : Int) % ((n9 : Int) + 1) = (K : Int) ∧ K ≤ (enc b0).length := by
            have h1 : 0 ≤ (cut : Int) % ((n9 : Int) + 1) := Int.emod_nonneg _ (by omega)
            have h2 : (cut : Int) % ((n9 : Int) + 1) < (n9 : Int) + 1 := Int.emod_lt_of_pos _ (by omega)
            obtain ⟨K, hK⟩ := Int.eq_ofNat_of_zero_le h1
            exact ⟨K, hK, by omega⟩
          obtain ⟨hK, hKl⟩ := hK
          have hnb : n9 ≤ 4256 := by omega
          have N9 := Lib.hid hn9
          clear hn9
          have hs1 := hb1.size
          have z0 := (w0.below hb1).more hs1
          have HK := Lib.hid hK
          clear hK
          go_wp2_with fail
          rw [HK.out]
          clear HK
          go_loop [12, 13] (fun t i => ∃ j : Nat, j ≤ b0.length ∧ i = .int .i64 j ∧ t = .int .i64 ((ofs b0 j : Nat) : Int) ∧ (0 < j → ofs b0 (j - 1) < K)) (fun _ i => b0.length - (intOf i).toNat)
          case atStart => exact ⟨0, by omega, rfl, by rw [ofs_zero]; rfl, fun h => absurd h (by omega)⟩
          case round =>
            obtain ⟨j, hj, rfl, rfl, hpre⟩ := hrel
            have hoj := ofs_le b0 j
            by_cases hin : j < b0.length ∧ ofs b0 j < K
            · obtain ⟨hlt, hlo⟩ := hin
              obtain ⟨b, off, Ai, ci, rfl, hB, hc, hBi, hli, hmi⟩ := z0.at_ hlt
              have hz := HMS.out b0[j] (List.getElem_mem hlt)
              have hos := ofs_succ b0 j hlt
              generalize b0[j] = z at hc hBi hli hz hos
              have HO := Lib.hid hos
              clear hos
              go_wp2_with fail
              go_round
              case rel => exact ⟨j + 1, by omega, by go_num, by rw [HO.out, Nat.add_assoc]; go_num, fun _ => by simpa using hlo⟩
              case measure => simp [intOf]; omega
            · have hend : j = b0.length ∨ K ≤ ofs b0 j := by omega
              have hge : K ≤ ofs b0 j := by
                rcases hend with rfl | h
                · rw [ofs_all]; exact hKl
                · exact h
              have hq' : ∀ i (h : i < b0.length), (b0[i].length : Int) ≤ 4096 := fun i h => by have := HMS.out b0[i] (List.getElem_mem h); omega
              have hcl : ((enc b0).take K).length = K := cut_len hKl
              have hBK : Bytes w1 w1.heap.size A9 ((enc b0).take K) := bytes_take hB9 K hKl
              have hKc : K ≤ c9 := by have := N9.out; omega
              have hsp := split_any A9 c9 ((enc b0).take K) 4096 w1 hBK (by rw [hcl]; exact hKc) (by rw [hcl]; omega) hmx9 (by omega)
              rw [hcl] at hsp
              by_cases heq : ofs b0 j = K
              · have hR : splR ((enc b0).take K) 4096 = (0, b0.take j) := by
                  rw [← heq]; exact cut_at HMS4.out hj (fun i h _ => hq' i h)
                rw [hR] at hsp
                have HSP := Lib.hid hsp
                clear hsp hR
                have hlk : ¬ (j < b0.length ∧ ofs b0 j < K) := hin
                have heq' : ((ofs b0 j : Nat) : Int) = (K : Int) := by omega
                have HEQ := Lib.hid heq'
                clear heq' hq' hcl
                go_wp2_with fail
                all_goals
                  refine HSP.out.mono ?_
                  rintro e w2 ⟨A2, n2, c2, rfl, hn2, hS2, hb2⟩
                  have hx2 := hS2.strs.1
                  clear hS2
                  have N2 := Lib.hid hn2
                  clear hn2
                  have hb12 := hb1.trans (hb2.mono hs1)
                  have hs2 := hb12.size
                  have z2 := (w0.below hb12).more hs2
                  have zj := strs_take z2 j hj
                  have hjc : j ≤ c0 := by omega
                  have hlj : j = (b0.take j).length := by rw [List.length_take]; omega
                  have HLJ := Lib.hid hlj
                  clear hlj
                  go_wp2_with (go_at_call 32; refine (same_yes A2 A0 n2 j c2 c0 (b0.take j) w2 hx2 zj N2.out HLJ.out (by rw [← HLJ.out]; unfold maxLen; omega)).mono ?_; rintro e w3 ⟨rfl, hb3⟩)
                all_goals
                  have hb13 := hb12.trans (hb3.mono hs2)
                  have hb23 := hb2.trans (hb3.mono hb2.size)
                  have hs13 := hb13.size
                  have z3 := (w0.below hb13).more hs13
                  have hB3 := Reads.more (Reads.below hB9 hb23) hb23.size
                  have HQ := Lib.hid (split_any A9 c9 (enc b0) (q : Int) _ hB3 (by have := N9.out; omega) (by omega) hmx9 (by omega))
                  have HMSR := HMS.out
                  go_loop [16, 17] (fun f i => ∃ k : Nat, k ≤ b0.length ∧ i = .int .i64 k ∧ f = .bool (fits b0 q k)) (fun _ i => b0.length - (intOf i).toNat)
                  case atStart => exact ⟨0, by omega, rfl, rfl⟩
                  case round =>
                    obtain ⟨k, hk2, rfl, rfl⟩ := hrel
                    by_cases hlt3 : k < b0.length
                    · obtain ⟨b, off, Ai, ci, rfl, hB, hc, hBi, hli, hmi⟩ := z3.at_ hlt3
                      have hz := HMSR b0[k] (List.getElem_mem hlt3)
                      have hfs := fits_succ b0 q k hlt3
                      generalize b0[k] = z at hc hBi hli hz hfs
                      generalize fits b0 q k = F at hfs ⊢
                      have HF := Lib.hid hfs
                      clear hfs
                      cases F
                      · go_wp2_with fail
                        go_round
                        case rel => exact ⟨k + 1, by omega, by go_num, by rw [HF.out]; rfl⟩
                        case measure => simp [intOf]; omega
                      · go_wp2_with fail
                        go_round
                        case rel => exact ⟨k + 1, by omega, by go_num, by rw [HF.out, Bool.true_and]⟩
                        case measure => simp [intOf]; omega
                    · obtain rfl : k = b0.length := by omega
                      cases hF : fits b0 q b0.length
                      · obtain ⟨jb, hjb, hb4, hb5⟩ := first_bad b0 q b0.length (by omega) hF
                        have hR2 := cut_many (q := (q : Int)) HMS4.out hjb hb4 hb5
                        have HQ2 := HQ.out
                        rw [hR2, ← N9.out] at HQ2
                        have HQ3 := Lib.hid HQ2
                        clear HQ2 hR2 hb4 hb5
                        go_wp2_with fail
                        refine HQ3.out.mono ?_
                        rintro e w4 ⟨A4, n4, c4, rfl, hn4, hS4, hb4⟩
                        clear hS4
                        have hn4 : n4 = 0 := hn4
                        go_wp2_with fail
                        refine (oworks_any _).mono ?_
                        rintro e w5 ⟨rfl, hb5⟩
                        go_wp2_with fail
                        go_ret
                        exact ⟨rfl, (hb13.trans (hb4.mono hs13)).trans (hb5.mono (Nat.le_trans hs13 hb4.size))⟩
                      · have hR2 := cut_whole (q := (q : Int)) HMS4.out (fits_all b0 q hF)
                        have HQ2 := HQ.out
                        rw [hR2, ← N9.out] at HQ2
                        have HQ3 := Lib.hid HQ2
                        clear HQ2 hR2
                        go_wp2_with fail
                        refine HQ3.out.mono ?_
                        rintro e w4 ⟨A4, n4, c4, rfl, hn4, hS4, hb4⟩
                        have hx4 := hS4.strs.1
                        clear hS4
                        have N4 := Lib.hid hn4
                        clear hn4
                        have hb14 := hb13.trans (hb4.mono hs13)
                        have hs14 := hb14.size
                        have z4 := (w0.below hb14).more hs14
                        go_wp2_with (go_at_call 32; refine (same_yes A4 A0 n4 b0.length c4 c0 b0 _ hx4 z4 N4.out rfl (by unfold maxLen; omega)).mono ?_; rintro e w5 ⟨rfl, hb5⟩)
                        refine (oworks_any _).mono ?_
                        rintro e w6 ⟨rfl, hb6⟩
                        go_wp2_with fail
                        go_ret
                        exact ⟨rfl, (hb14.trans (hb5.mono hs14)).trans (hb6.mono (Nat.le_trans hs14 hb5.size))⟩
              · have hlt2 : K < ofs b0 j := by omega
                obtain ⟨j, rfl⟩ : ∃ i, j = i + 1 := ⟨j - 1, by
                  rcases j with _ | j
                  · rw [ofs_zero] at hlt2; omega
                  · omega⟩
                have hpj : ofs b0 j < K := by simpa using hpre (by omega)
                have hR : splR ((enc b0).take K) 4096 = (5, []) := cut_in hKl HMS4.out (by omega) hpj hlt2 (fun i h _ => hq' i h)
                rw [hR] at hsp
                have HSP := Lib.hid hsp
                clear hsp hR
                have hlk : ¬ (j + 1 < b0.length ∧ ofs b0 (j + 1) < K) := hin
                clear hq' hcl hpre
                go_wp2_with fail
                all_goals
                  refine HSP.out.mono ?_
                  rintro e w2 ⟨A2, n2, c2, rfl, hn2, hS2, hb2⟩
                  clear hS2
                  have hb12 := hb1.trans (hb2.mono hs1)
                  have hs2 := hb12.size
                  go_wp2_with fail
                  have hb13 := hb12
                  have hb23 := hb2
                  have hs13 := hb13.size
                  have z3 := (w0.below hb13).more hs13
                  have hB3 := Reads.more (Reads.below hB9 hb23) hb23.size
                  have HQ := Lib.hid (split_any A9 c9 (enc b0) (q : Int) _ hB3 (by have := N9.out; omega) (by omega) hmx9 (by omega))
                  have HMSR := HMS.out
                  go_loop [16, 17] (fun f i => ∃ k : Nat, k ≤ b0.length ∧ i = .int .i64 k ∧ f = .bool (fits b0 q k)) (fun _ i => b0.length - (intOf i).toNat)
                  case atStart => exact ⟨0, by omega, rfl, rfl⟩
                  case round =>
                    obtain ⟨k, hk2, rfl, rfl⟩ := hrel
                    by_cases hlt3 : k < b0.length
                    · obtain ⟨b, off, Ai, ci, rfl, hB, hc, hBi, hli, hmi⟩ := z3.at_ hlt3
                      have hz := HMSR b0[k] (List.getElem_mem hlt3)
                      have hfs := fits_succ b0 q k hlt3
                      generalize b0[k] = z at hc hBi hli hz hfs
                      generalize fits b0 q k = F at hfs ⊢
                      have HF := Lib.hid hfs
                      clear hfs
                      cases F
                      · go_wp2_with fail
                        go_round
                        case rel => exact ⟨k + 1, by omega, by go_num, by rw [HF.out]; rfl⟩
                        case measure => simp [intOf]; omega
                      · go_wp2_with fail
                        go_round
                        case rel => exact ⟨k + 1, by omega, by go_num, by rw [HF.out, Bool.true_and]⟩
                        case measure => simp [intOf]; omega
                    · obtain rfl : k = b0.length := by omega
                      cases hF : fits b0 q b0.length
                      · obtain ⟨jb, hjb, hb4, hb5⟩ := first_bad b0 q b0.length (by omega) hF
                        have hR2 := cut_many (q := (q : Int)) HMS4.out hjb hb4 hb5
                        have HQ2 := HQ.out
                        rw [hR2, ← N9.out] at HQ2
                        have HQ3 := Lib.hid HQ2
                        clear HQ2 hR2 hb4 hb5
                        go_wp2_with fail
                        refine HQ3.out.mono ?_
                        rintro e w4 ⟨A4, n4, c4, rfl, hn4, hS4, hb4⟩
                        clear hS4
                        have hn4 : n4 = 0 := hn4
                        go_wp2_with fail
                        refine (oworks_any _).mono ?_
                        rintro e w5 ⟨rfl, hb5⟩
                        go_wp2_with fail
                        go_ret
                        exact ⟨rfl, (hb13.trans (hb4.mono hs13)).trans (hb5.mono (Nat.le_trans hs13 hb4.size))⟩
                      · have hR2 := cut_whole (q := (q : Int)) HMS4.out (fits_all b0 q hF)
                        have HQ2 := HQ.out
                        rw [hR2, ← N9.out] at HQ2
                        have HQ3 := Lib.hid HQ2
                        clear HQ2 hR2
                        go_wp2_with fail
                        refine HQ3.out.mono ?_
                        rintro e w4 ⟨A4, n4, c4, rfl, hn4, hS4, hb4⟩
                        have hx4 := hS4.strs.1
                        clear hS4
                        have N4 := Lib.hid hn4
                        clear hn4
                        have hb14 := hb13.trans (hb4.mono hs13)
                        have hs14 := hb14.size
                        have z4 := (w0.below hb14).more hs14
                        go_wp2_with (go_at_call 32; refine (same_yes A4 A0 n4 b0.length c4 c0 b0 _ hx4 z4 N4.out rfl (by unfold maxLen; omega)).mono ?_; rintro e w5 ⟨rfl, hb5⟩)
                        refine (oworks_any _).mono ?_
                        rintro e w6 ⟨rfl, hb6⟩
                        go_wp2_with fail
                        go_ret
                        exact ⟨rfl, (hb14.trans (hb5.mono hs14)).trans (hb6.mono (Nat.le_trans hs14 hb5.size))⟩

set_option maxRecDepth 100000 in
theorem lifted (os : Os) (started : os.Started) (H : Type) (enc : TypeId × Value → H) :
    ReturnsInHanded {} Try.checked os 7 .any (Rows.octetCuttingsSpec.pre6 enc Try.prog Try.f7 Rows.octetCuttingsRow.domain false) (Rows.octetCuttingsSpec.post enc Try.prog Try.f7 false true false false) := by
  refine returnsInHanded_of_change_sized (C := Try.checked) own started (by kernel_rfl) Try.func7
    (ChangeSpec.witness6 (enc := enc) (C := Try.checked) false ⟨#[], #[.slice none 0 0, .int .u16 0, .int .i64 0], []⟩ 8 (by kernel_rfl) (by kernel_rfl) (by kernel_rfl) (by kernel_rfl)) ?_
  intro W base args ds gs before hval0 hW hcnd hsz0 _
  have hval : ∀ (j : Nat) t v, Try.f7.params[j]? = some t → args[j]? = some v → Value.okWide Try.prog W .any base t v := hval0
  have hW' := hW
  obtain ⟨p, q, hA0, hV, rfl, hfz, hnd⟩ := hW
  have hA : DataW.TrodAll enc Try.prog W 0 (fun _ => true) true Try.f7.params.toList args.toList ds p := hA0
  rw [Try.params7] at hA hval
  obtain ⟨v0, vs0, d0, ds0, p0, q0, hargs, rfl, rfl, h0, r0⟩ := trodAll_cons hA
  obtain ⟨v1, vs1, d1, ds1, p1, q1, rfl, rfl, rfl, h1, r1⟩ := trodAll_cons r0
  obtain ⟨v2, vs2, d2, ds2, p2, q2, rfl, rfl, rfl, h2, r2⟩ := trodAll_cons r1
  obtain ⟨rfl, rfl, rfl⟩ := trodAll_nil r2
  obtain rfl : args = #[v0, v1, v2] := by cases args; simp_all
  obtain ⟨rfl, rfl⟩ := trodVars_none hV
  have hsz : (DataW.weightsEach Try.prog (Try.f7.params.toList ++ []) ([d0, d1, d2] ++ [])).all (· ≤ reachBytes) = true := hsz0
  rw [Try.params7] at hsz
  obtain ⟨A0, n0, c0, rfl⟩ := okWide_slice Try.underlying33 (hval 0 33 v0 rfl rfl)
  have k0 := h0
  have lt0 : ∀ x ∈ p0, x.block < W.heap.size := by obtain ⟨m, hm⟩ := k0; exact DataW.trod_lt m _ _ _ hm
  obtain ⟨b0, rfl, w0, y0, l0, m0⟩ : ∃ l : List (List UInt8), n0 = l.length ∧ Strs W W.heap.size A0 l ∧ (∀ s ∈ l, s.length ≤ 140737488351232) ∧ n0 ≤ c0 ∧ c0 ≤ maxLen := by
    obtain ⟨fuel, hf⟩ := h0
    rcases Deep.open_int_rows Try.underlying33 Try.underlying22 Try.underlying5 (by kernel_rfl) (by kernel_rfl) hf with ⟨hcs, _⟩ | ⟨a, len, cap, A, L, C, Z, hcs, _, hl, hm, hdx, hcell⟩
    · simp [Value.cells] at hcs
      obtain ⟨rfl, rfl, rfl⟩ := hcs
      exact ⟨[], rfl, Strs.none_, (fun s hs => by cases hs), Nat.le_refl _, by decide⟩
    · simp [Value.cells] at hcs
      obtain ⟨rfl, rfl, rfl⟩ := hcs
      obtain ⟨hd, _⟩ := Prod.mk.inj hdx
      obtain ⟨l, h1, h2⟩ := strs_of hl (fun r hr => by
        obtain ⟨x1, x2, x3, x4, x5, x6, x7⟩ := hcell r hr
        exact ⟨x1, x2, x3, x4, x5, x6, fun a' ha => (x7 a' ha).2⟩)
      refine ⟨l, h1, h2, strs_short (A := A) (L := L) (C := C) h2 (fun r hr => ?_), hl, hm⟩
      obtain ⟨x1, x2, _, x4, _, x6, _⟩ := hcell r (by omega)
      refine ⟨x1, ?_⟩
      by_cases hA : A r = none
      · have := x6 hA; omega
      · have := rows_reach hsz (j := 0) (t := 33) (e := 22) (q := 5) (C := C) rfl (by rw [← hd]; rfl) Try.underlying33 Try.underlying22 (by kernel_rfl) r (by omega) hA x4
        omega
  obtain ⟨a1, rfl, rfl, rfl, w1⟩ := open_int Try.underlying49 (hval 1 49 v1 rfl rfl) h1
  obtain ⟨a2, rfl, rfl, rfl, w2⟩ := open_int Try.underlying3 (hval 2 3 v2 rfl rfl) h2
  clear hA0 hval0
  refine (walk A0 b0 c0 a1 a2 W w0 y0 l0 m0 w1 w2).mono fun e W' ⟨he, bel⟩ => ?_
  subst he
  exact ⟨_, rfl, _, _, _, [], _, [], hW', trodAll_mk1 (shut_bool Try.underlying4 _), (trodAll_cons_mk (Below.trod laidOut (by kernel_rfl) (of_decide_eq_true (by kernel_rfl)) k0 bel lt0) (trodAll_cons_mk (shut_int Try.underlying49 w1) (trodAll_cons_mk (shut_int Try.underlying3 w2) trodAll_mk0))), rfl, bel.frame _, fun h => by cases h⟩

theorem over : Rows.octetCuttingsRow.holds Try.pinned (OpenSpec.ofChange Rows.octetCuttingsSpec) :=
  OpenClaim.holds_of_wide 7 Try.f7 rfl rfl rfl rfl rfl rfl rfl ⟨rfl, rfl, rfl, rfl, rfl⟩ rfl rfl rfl rfl rfl (by kernel_rfl) Try.func7 (by kernel_rfl)
    (of_decide_eq_true (by kernel_rfl)) (by unfold Func.isWrapper; first | (rw [if_pos (by decide +kernel)]; kernel_rfl) | (rw [if_neg (by decide +kernel)]; exact ⟨rfl, rfl⟩))
    (fun os started H enc _ => lifted os started H enc)

theorem proved : Rows.OctetCuttingsSaid := over
#print axioms proved
end Go.Proofs.Ytbfdliogpheekaa.octetCuttings
