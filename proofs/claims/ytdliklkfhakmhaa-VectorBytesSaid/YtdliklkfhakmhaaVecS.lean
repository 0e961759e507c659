import Derived.Test.YtdliklkfhakmhaaVecR
import Derived.Test.YtdliklkfhakmhaaVecP
import Derived.Deep.RegionWith
namespace Go.Proofs.Ytdliklkfhakmhaa
open Go.RowKit
attribute [local go_sem ↓] exec_loadV exec_storeV exec_buildV Go.wp_at_zero Go.wp_at_succ
/-! the document's vectors: the greatest and the least numbers of many; what is known, what comes next. -/
def allTo (l : List (List Nat)) : List Nat := l.foldl (fun o v => joinV [o, v]) Z6
theorem zip_zero : ∀ (v : List Nat), v.length = 6 → joinV [Z6, v] = v := by
  intro v h
  obtain ⟨a, b, c, d, e, f, rfl⟩ := six h
  have hm : ∀ y, pick gtN 0 y = y := fun y => by
    unfold pick gtN
    by_cases h : 0 < y
    · simp [h]
    · have : y = 0 := by omega
      simp [this]
  show [pick gtN 0 a, pick gtN 0 b, pick gtN 0 c, pick gtN 0 d, pick gtN 0 e, pick gtN 0 f] = _
  simp only [hm]
theorem allTo_eq (l : List (List Nat)) (hs : ∀ v ∈ l, v.length = 6) : allTo l = joinV l := by
  cases l with
  | nil => rfl
  | cons a l =>
    show l.foldl _ (joinV [Z6, a]) = l.foldl _ a
    rw [zip_zero a (hs a (by simp))]
    rfl
theorem allTo_len (l : List (List Nat)) (hs : ∀ v ∈ l, v.length = 6) : (allTo l).length = 6 := by rw [allTo_eq l hs]; exact joinV_len hs
theorem allTo_succ (l : List (List Nat)) (k : Nat) (h : k < l.length) : allTo (l.take (k + 1)) = joinV [allTo (l.take k), l[k]] := by
  rw [List.take_succ_eq_append_getElem h]
  unfold allTo; rw [List.foldl_append]; rfl
theorem meetTo_succ (l : List (List Nat)) (k : Nat) (h : k < l.length) (h0 : 1 ≤ k) : meetV (l.take (k + 1)) = meetV [meetV (l.take k), l[k]] := by
  rw [List.take_succ_eq_append_getElem h]
  exact chosenV_snoc ltN _ _ (fun e => by have := congrArg List.length e; simp only [List.length_take, List.length_nil] at this; omega)
structure RB (w W : World) (O : List Nat) (b o : Nat) (V : List Nat) : Prop where
  r : Blk W w.heap.size 24 (vecA Z6)
  ou : Blk W (w.heap.size + 1) 24 (vecA O)
  bel : Below w.heap.size w W
  lt : b < w.heap.size
  v : W.rangeAt b o (vecL V)
theorem range_below {w w' : World} {B b o : Nat} {vs : List Value} (hb : Below B w w') (hB : b < B) (h : w.rangeAt b o vs) : w'.rangeAt b o vs := fun j v hj => (hb.cell (p := ⟨b, o + j, none⟩) hB).trans (h j v hj)
theorem RB.drew {w W : World} {O : List Nat} {b o : Nat} {V : List Nat} (h : RB w W O b o V) : RB w W.drew O b o V := ⟨h.r.drew, h.ou.drew, h.bel.drew, h.lt, range_below (Below.drew (Below.refl W.heap.size W)) (Nat.lt_of_lt_of_le h.lt h.bel.size) h.v⟩
theorem RB.next {w W W' : World} {O : List Nat} {b o : Nat} {V : List Nat} (h : RB w W O b o V) (hb : Below W.heap.size W W') : RB w W' O b o V :=
  ⟨h.r.below hb h.r.lt, h.ou.below hb h.ou.lt, h.bel.trans (hb.mono h.bel.size), h.lt, range_below hb (Nat.lt_of_lt_of_le h.lt h.bel.size) h.v⟩
set_option maxRecDepth 100000 in
theorem rall_any (A : Option Addr) (n c : Nat) (l : List (List Nat)) (w : World) (hl : Vecs w w.heap.size A l) (hs : ∀ v ∈ l, v.length = 6) (hn : n = l.length) (hmx : l.length ≤ 1099511627776) :
    Calls Try.prog 29 #[.slice A n c] w fun e w' => e = .returned (.agg (vecA (joinV l))) ∧ Below w.heap.size w w' := by
  have HN := Lib.hid hn
  have HL := Lib.hid hl
  have HS := Lib.hid hs
  have hz : n ≤ 1099511627776 := by omega
  rw [← allTo_eq l hs]
  have r0 := (Blk.new w 24 (vecA Z6)).alloc (.cells (vecA Z6) 24)
  have o0 : Blk ((w.alloc (.cells (vecA Z6) 24)).alloc (.cells (vecA Z6) 24)) (w.heap.size + 1) 24 (vecA Z6) := Blk.at_ _ _ _ _ (by simp)
  have b0 := ((Below.refl w.heap.size w).alloc (Nat.le_refl _) (.cells (vecA Z6) 24)).alloc (by simp) (.cells (vecA Z6) 24)
  clear hn hl hs hmx
  go_enter Try.func29, Try.ntmps29
  go_wp2_with fail
  go_loopw [4] (fun i wr => ∃ k : Nat, k ≤ n ∧ i = .int .i64 k ∧ Blk wr w.heap.size 24 (vecA Z6) ∧ Blk wr (w.heap.size + 1) 24 (vecA (allTo (l.take k))) ∧ Below w.heap.size w wr) (fun i _ => n - (intOf i).toNat)
  case atStart => exact ⟨0, by omega, rfl, r0, o0, b0⟩
  case round =>
    clear r0 o0 b0
    obtain ⟨k, hk, rfl, hr, ho, hb⟩ := hrel
    by_cases hlt : k < n
    · have hkl : k < l.length := by rw [← HN.out]; exact hlt
      obtain ⟨b, off, rfl, hB, hc⟩ := HL.out (by omega)
      obtain ⟨hV6, hv⟩ := hc k l[k] (List.getElem?_eq_getElem hkl)
      have hsucc := allTo_succ l k hkl
      have hO6 := allTo_len (l.take k) (fun v hv => HS.out v (List.mem_of_mem_take hv))
      have s1 : RB w wr (allTo (l.take k)) b (off + k * 6) l[k] := ⟨hr, ho, hb, hB, range_below hb hB hv⟩
      generalize l[k] = V at hV6 hsucc s1
      generalize allTo (l.take k) = O at hsucc hO6 s1
      obtain ⟨J, hJ⟩ : ∃ J, Hid (joinV [O, V] = J) := ⟨_, Lib.hid rfl⟩
      have HV6 := Lib.hid hV6
      have HO6 := Lib.hid hO6
      have HJ6 : Hid (J.length = 6) := by show _ = _; rw [← hJ.out]; exact jlen hO6 hV6
      have HSU : Hid (allTo (l.take (k + 1)) = J) := by show _ = _; rw [hsucc]; exact hJ.out
      clear hsucc hO6 hV6 hr ho hb hc hv hB
      have l1 : ∀ W, RB w W O b (off + k * 6) V → (loadV (.pointer (some ⟨w.heap.size + 1, 0, none⟩))).run Try.prog W = .ok (.agg (vecA O)) W := fun W h => run_loadV HO6.out h.ou
      have l2 : ∀ W, RB w W O b (off + k * 6) V → (loadV (.pointer (some ⟨b, off + k * 6, none⟩))).run Try.prog W = .ok (.agg (vecA V)) W := fun W h => run_loadV_mid HV6.out h.v
      have st : ∀ W, RB w W O b (off + k * 6) V → (storeV (.pointer (some ⟨w.heap.size + 1, 0, none⟩)) (.agg (vecA J))).run Try.prog W = .ok () (W.setRow (w.heap.size + 1) (vecA J)) := fun W h => run_storeV HJ6.out h.ou (by rw [vecA_size]; exact HO6.out)
      have fin : ∀ W, RB w W O b (off + k * 6) V → Blk (W.setRow (w.heap.size + 1) (vecA J)) w.heap.size 24 (vecA Z6) ∧ Blk (W.setRow (w.heap.size + 1) (vecA J)) (w.heap.size + 1) 24 (vecA J) ∧ Below w.heap.size w (W.setRow (w.heap.size + 1) (vecA J)) := fun W h =>
        ⟨h.r.rowFar (by omega) _, h.ou.row _, below_setRow h.bel (by omega) _⟩
      have FIN := Lib.hid fin
      clear fin
      have dr : ∀ W, RB w W O b (off + k * 6) V → RB w W.drew O b (off + k * 6) V := fun W h => h.drew
      go_wp2_with fail
      go_region_with (first
        | (go_at_call 57; (with_reducible refine (rjoin_two O V HO6.out HV6.out _).mono ?_); rintro e w9 ⟨rfl, hb9⟩; rw [hJ.out]; have s9 := RB.next (RB.drew s1) hb9))
      all_goals
        go_wp2_with fail
        go_roundw
        case rel => exact ⟨k + 1, by omega, by go_num, (FIN.out _ (by assumption)).1, by rw [HSU.out]; exact (FIN.out _ (by assumption)).2.1, (FIN.out _ (by assumption)).2.2⟩
        case measure => simp [intOf]; omega
    · obtain rfl : k = n := by omega
      rw [HN.out, List.take_length] at ho
      have h6 := allTo_len l HS.out
      generalize hJJ : allTo l = J at ho h6
      have HJJ := Lib.hid hJJ
      clear hJJ
      have HJ6 := Lib.hid h6
      have l1 : (loadV (.pointer (some ⟨w.heap.size + 1, 0, none⟩))).run Try.prog wr = .ok (.agg (vecA J)) wr := run_loadV h6 ho
      have s1 : (storeV (.pointer (some ⟨w.heap.size, 0, none⟩)) (.agg (vecA J))).run Try.prog wr = .ok () (wr.setRow w.heap.size (vecA J)) := run_storeV h6 hr rfl
      have HR := Lib.hid hr
      clear h6 ho hr
      go_wp2_with fail
      exact bodyPost_ret (retV _ J HJ6.out (HR.out.row (vecA J)) Try.results29 _ rfl) rfl ⟨by rw [HJJ.out], below_setRow hb (Nat.le_refl _) _⟩
set_option maxRecDepth 100000 in
theorem rleast_any (A : Option Addr) (n c : Nat) (l : List (List Nat)) (w : World) (hl : Vecs w w.heap.size A l) (hs : ∀ v ∈ l, v.length = 6) (hn : n = l.length) (hmx : l.length ≤ 1099511627776) :
    Calls Try.prog 31 #[.slice A n c] w fun e w' => e = .returned (.agg (vecA (meetV l))) ∧ Below w.heap.size w w' := by
  have HN := Lib.hid hn
  have HL := Lib.hid hl
  have HS := Lib.hid hs
  have hz : n ≤ 1099511627776 := by omega
  have r1 := Blk.new w 24 (vecA Z6)
  have b1 := (Below.refl w.heap.size w).alloc (Nat.le_refl _) (.cells (vecA Z6) 24)
  by_cases h0 : n = 0
  · have hl0 : l = [] := List.eq_nil_of_length_eq_zero (by rw [← hn]; exact h0)
    subst hl0
    have hnz : (n : Int) = 0 := by omega
    have s1 : ∀ W, Blk W w.heap.size 24 (vecA Z6) → (storeV (.pointer (some ⟨w.heap.size, 0, none⟩)) (.agg #[.int .u64 0, .int .u64 0, .int .u64 0, .int .u64 0, .int .u64 0, .int .u64 0])).run Try.prog W = .ok () (W.setRow w.heap.size (vecA Z6)) := fun W h => run_storeV (L := Z6) rfl h rfl
    have R1 : Blk (w.alloc (.cells #[.int .u64 0, .int .u64 0, .int .u64 0, .int .u64 0, .int .u64 0, .int .u64 0] 24)) w.heap.size 24 (vecA Z6) := r1
    clear hn hl hs hmx h0
    go_enter Try.func31, Try.ntmps31
    go_wp2_with fail
    exact bodyPost_ret (retV _ Z6 rfl (r1.row (vecA Z6)) Try.results31 _ rfl) rfl ⟨rfl, below_setRow b1 (Nat.le_refl _) _⟩
  · have hl0 : 0 < l.length := by omega
    obtain ⟨b, off, rfl, hB, hc⟩ := hl hl0
    obtain ⟨hF6, hf⟩ := hc 0 l[0] (List.getElem?_eq_getElem hl0)
    have hm1 : meetV (l.take 1) = l[0] := by
      cases l with
      | nil => simp at hl0
      | cons a l => rfl
    generalize l[0] = F at hF6 hf hm1
    have HF6 := Lib.hid hF6
    have HM1 := Lib.hid hm1
    have hnz : ((n : Int) == 0) = false := by rw [beq_eq_false_iff_ne]; omega
    have hn1 : (0 : Int) < (n : Int) := by omega
    have lf : ∀ W, W.rangeAt b off (vecL F) → (loadV (.pointer (some ⟨b, off, none⟩))).run Try.prog W = .ok (.agg (vecA F)) W := fun W h => run_loadV_mid HF6.out h
    have sf : (storeV (.pointer (some ⟨w.heap.size + 1, 0, none⟩)) (.agg (vecA F))).run Try.prog ((w.alloc (.cells #[.int .u64 0, .int .u64 0, .int .u64 0, .int .u64 0, .int .u64 0, .int .u64 0] 24)).alloc (.cells #[.int .u64 0, .int .u64 0, .int .u64 0, .int .u64 0, .int .u64 0, .int .u64 0] 24)) = .ok () ((w.alloc (.cells #[.int .u64 0, .int .u64 0, .int .u64 0, .int .u64 0, .int .u64 0, .int .u64 0] 24)).alloc (.cells (vecA F) 24)) := by
      have := run_storeV_new (W := w.alloc (.cells #[.int .u64 0, .int .u64 0, .int .u64 0, .int .u64 0, .int .u64 0, .int .u64 0] 24)) HF6.out
      rwa [show (w.alloc (.cells #[.int .u64 0, .int .u64 0, .int .u64 0, .int .u64 0, .int .u64 0, .int .u64 0] 24)).heap.size = w.heap.size + 1 by simp] at this
    have v1 : (w.alloc (.cells #[.int .u64 0, .int .u64 0, .int .u64 0, .int .u64 0, .int .u64 0, .int .u64 0] 24)).rangeAt b off (vecL F) := range_below b1 hB (by simpa using hf)
    have HR0 := Lib.hid (r1.alloc (.cells (vecA F) 24))
    have HO0 := Lib.hid (Blk.at_ (w.alloc (.cells (vecA Z6) 24)) 24 (vecA F) (w.heap.size + 1) (by simp))
    have HB0 := Lib.hid (b1.alloc (by simp) (.cells (vecA F) 24))
    clear hn hl hs hmx h0 hf hF6 hm1 hc b1 r1 hl0
    go_enter Try.func31, Try.ntmps31
    go_wp2_with fail
    clear lf sf v1
    go_loopw [4] (fun i wr => ∃ k : Nat, 1 ≤ k ∧ k ≤ n ∧ i = .int .i64 k ∧ Blk wr w.heap.size 24 (vecA Z6) ∧ Blk wr (w.heap.size + 1) 24 (vecA (meetV (l.take k))) ∧ Below w.heap.size w wr) (fun i _ => n - (intOf i).toNat)
    case atStart => exact ⟨1, by omega, by omega, rfl, HR0.out, by rw [HM1.out]; exact HO0.out, HB0.out⟩
    case round =>
      clear HR0 HO0 HB0
      obtain ⟨k, hk1, hk, rfl, hr, ho, hb⟩ := hrel
      by_cases hlt : k < n
      · have hkl : k < l.length := by rw [← HN.out]; exact hlt
        obtain ⟨b', off', hbo, hB, hc⟩ := HL.out (by omega)
        injection hbo with hbo
        injection hbo with hb1 hb2
        subst hb1 hb2
        obtain ⟨hV6, hv⟩ := hc k l[k] (List.getElem?_eq_getElem hkl)
        have hsucc := meetTo_succ l k hkl hk1
        have hO6 : (meetV (l.take k)).length = 6 := meetV_len (fun v hv => HS.out v (List.mem_of_mem_take hv))
        have s1 : RB w wr (meetV (l.take k)) b (off + k * 6) l[k] := ⟨hr, ho, hb, hB, range_below hb hB hv⟩
        generalize l[k] = V at hV6 hsucc s1
        generalize meetV (l.take k) = O at hsucc hO6 s1
        obtain ⟨J, hJ⟩ : ∃ J, Hid (meetV [O, V] = J) := ⟨_, Lib.hid rfl⟩
        have HV6 := Lib.hid hV6
        have HO6 := Lib.hid hO6
        have HJ6 : Hid (J.length = 6) := by show _ = _; rw [← hJ.out]; exact mlen hO6 hV6
        have HSU : Hid (meetV (l.take (k + 1)) = J) := by show _ = _; rw [hsucc]; exact hJ.out
        clear hsucc hO6 hV6 hr ho hb hc hv hB
        have l1 : ∀ W, RB w W O b (off + k * 6) V → (loadV (.pointer (some ⟨w.heap.size + 1, 0, none⟩))).run Try.prog W = .ok (.agg (vecA O)) W := fun W h => run_loadV HO6.out h.ou
        have l2 : ∀ W, RB w W O b (off + k * 6) V → (loadV (.pointer (some ⟨b, off + k * 6, none⟩))).run Try.prog W = .ok (.agg (vecA V)) W := fun W h => run_loadV_mid HV6.out h.v
        have st : ∀ W, RB w W O b (off + k * 6) V → (storeV (.pointer (some ⟨w.heap.size + 1, 0, none⟩)) (.agg (vecA J))).run Try.prog W = .ok () (W.setRow (w.heap.size + 1) (vecA J)) := fun W h => run_storeV HJ6.out h.ou (by rw [vecA_size]; exact HO6.out)
        have fin : ∀ W, RB w W O b (off + k * 6) V → Blk (W.setRow (w.heap.size + 1) (vecA J)) w.heap.size 24 (vecA Z6) ∧ Blk (W.setRow (w.heap.size + 1) (vecA J)) (w.heap.size + 1) 24 (vecA J) ∧ Below w.heap.size w (W.setRow (w.heap.size + 1) (vecA J)) := fun W h =>
          ⟨h.r.rowFar (by omega) _, h.ou.row _, below_setRow h.bel (by omega) _⟩
        have FIN := Lib.hid fin
        clear fin
        have dr : ∀ W, RB w W O b (off + k * 6) V → RB w W.drew O b (off + k * 6) V := fun W h => h.drew
        go_wp2_with fail
        go_region_with (first
          | (go_at_call 59; (with_reducible refine (rmeet_two O V HO6.out HV6.out _).mono ?_); rintro e w9 ⟨rfl, hb9⟩; rw [hJ.out]; have s9 := RB.next (RB.drew s1) hb9))
        all_goals
          go_wp2_with fail
          go_roundw
          case rel => exact ⟨k + 1, by omega, by omega, by go_num, (FIN.out _ (by assumption)).1, by rw [HSU.out]; exact (FIN.out _ (by assumption)).2.1, (FIN.out _ (by assumption)).2.2⟩
          case measure => simp [intOf]; omega
      · obtain rfl : k = n := by omega
        rw [HN.out, List.take_length] at ho
        have h6 : (meetV l).length = 6 := meetV_len HS.out
        generalize hJJ : meetV l = J at ho h6
        have HJJ := Lib.hid hJJ
        clear hJJ
        have HJ6 := Lib.hid h6
        have l1 : (loadV (.pointer (some ⟨w.heap.size + 1, 0, none⟩))).run Try.prog wr = .ok (.agg (vecA J)) wr := run_loadV h6 ho
        have s1 : (storeV (.pointer (some ⟨w.heap.size, 0, none⟩)) (.agg (vecA J))).run Try.prog wr = .ok () (wr.setRow w.heap.size (vecA J)) := run_storeV h6 hr rfl
        have HR := Lib.hid hr
        clear h6 ho hr
        go_wp2_with fail
        exact bodyPost_ret (retV _ J HJ6.out (HR.out.row (vecA J)) Try.results31 _ rfl) rfl ⟨by rw [HJJ.out], below_setRow hb (Nat.le_refl _) _⟩
end Go.Proofs.Ytdliklkfhakmhaa
