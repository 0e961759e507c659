import Derived.Test.YtmddbpkojboogaaRgI
namespace Go.Proofs.Ytmddbpkojboogaa
open Go.RowKit
/-! rights: Give, Take, Free, Move. -/
attribute [local go_sem ↓] exec_loadR exec_storeR exec_allocR exec_buildR
def giveR (L : List Int) (i x : Int) : List Int × Int := guardR L x [i] (giveE L (i - 1).toNat x)
def takeR (L : List Int) (i x : Int) : List Int × Int := guardR L x [i] (takeE L (i - 1).toNat x)
def freeR (L : List Int) (i x : Int) : List Int × Int := guardR L x [i] (freeE L (i - 1).toNat x)
def moveR (L : List Int) (i j x : Int) : List Int × Int := guardR L x [i, j] (moveE L (i - 1).toNat (j - 1).toNat x)
theorem tu_tw {w W : World} {L : List Int} {x : Int} {lc : List (Nat × Int)} (h : TU w W L x) (hc : ∀ p ∈ lc, w.cell? ⟨p.1, 0, none⟩ = some (.int .i64 p.2) ∧ p.1 < w.heap.size) : TW W W w.heap.size ((w.heap.size + 1, x) :: lc) L := by
  refine ⟨h.r, fun p hp => ?_, Below.refl _ _, fun _ _ _ => rfl⟩
  rcases List.mem_cons.1 hp with rfl | hp
  · exact ⟨h.x, by have := h.size; show w.heap.size + 1 < _; omega, by show _ ≠ w.heap.size + 1; omega⟩
  · obtain ⟨h1, h2⟩ := hc p hp
    exact ⟨(h.bel.cell (p := ⟨p.1, 0, none⟩) h2).trans h1, Nat.lt_of_lt_of_le h2 h.bel.size, by omega⟩
theorem tw_tu {w W w' : World} {L M : List Int} {x : Int} {lc : List (Nat × Int)} (h : TU w W L x) (t : TW W w' w.heap.size ((w.heap.size + 1, x) :: lc) M) : TU w w' M x := by
  refine ⟨t.rb, t.at_ 0 rfl, ⟨?_, rfl⟩, h.bel.trans t.bel, Nat.le_trans h.size t.bel.size⟩
  exact (t.keep (w.heap.size + 2) (by omega) (by have := h.size; omega)).trans h.z.blk
theorem all_one {z : Int} (h : [z].all regR = true) : regR z = true := by simpa using h
theorem all_two {z y : Int} (h : [z, y].all regR = true) : regR z = true ∧ regR y = true := by simpa using h
theorem run_build1 (W : World) (p : Int) : (Instr.buildSlice 65 1 #[(0, .int .i64 p)]).run Try.prog W = .ok (.slice (some ⟨W.heap.size, 0, none⟩) 1 1) (W.alloc (.cells #[.int .i64 p] 3)) := by go_simp
theorem run_build2 (W : World) (p q : Int) : (Instr.buildSlice 65 2 #[(0, .int .i64 p), (1, .int .i64 q)]).run Try.prog W = .ok (.slice (some ⟨W.heap.size, 0, none⟩) 2 2) (W.alloc (.cells #[.int .i64 p, .int .i64 q] 3)) := by go_simp
theorem enLen {L : List Int} (k : Nat) (x : Int) (h : L.length = 54) : (giveE L k x).1.length = 54 ∧ (takeE L k x).1.length = 54 ∧ (freeE L k x).1.length = 54 ∧ ∀ q, (moveE L k q x).1.length = 54 := by
  refine ⟨?_, ?_, ?_, fun q => ?_⟩
  · unfold giveE; split <;> simp [h]
  · unfold takeE; split <;> (try split) <;> simp [h]
  · unfold freeE; split <;> simp [h]
  · unfold moveE; split <;> (try split) <;> (try split) <;> simp [h]
theorem guardLen {L : List Int} {x : Int} {ks : List Int} {E : List Int × Int} (h : E.1.length = 54) : (guardR L x ks E).1.length = 54 := by
  unfold guardR; split <;> (try split) <;> (try split) <;> first | exact h | rfl
set_option maxRecDepth 100000
set_option maxHeartbeats 2000000
theorem take_any (L : List Int) (h : L.length = 54) (i x : Int) (w : World) :
    Calls Try.prog 41 #[.agg (rgtA L), .int .i64 i, .int .i64 x] w fun e w' => e = .returned (.tuple #[.agg (rgtA (takeR L i x).1), .int .i64 (takeR L i x).2]) ∧ Below w.heap.size w w' := by
  obtain ⟨W3, hW3⟩ : ∃ W3, Hid (((((w.alloc (.cells (rgtA L) 42)).alloc (.cells #[.int .i64 i] 3)).alloc (.cells #[.int .i64 x] 2)).alloc (.cells (rgtA Z54) 42)) = W3) := ⟨_, Lib.hid rfl⟩
  obtain ⟨W4, hW4⟩ : ∃ W4, Hid ((((((w.alloc (.cells (rgtA L) 42)).alloc (.cells #[.int .i64 i] 3)).alloc (.cells #[.int .i64 x] 2)).alloc (.cells (rgtA Z54) 42)).alloc (.cells #[.int .i64 i] 3)) = W4) := ⟨_, Lib.hid rfl⟩
  have hs : W4.heap.size = w.heap.size + 5 := by rw [← hW4.out]; simp
  have hb : Below w.heap.size w W4 := by
    rw [← hW4.out]
    exact (((((Below.refl _ _).alloc (by simp <;> omega) _).alloc (by simp <;> omega) _).alloc (by simp <;> omega) _).alloc (by simp <;> omega) _).alloc (by simp <;> omega) _
  have hr : RB W4 w.heap.size L := by rw [← hW4.out]; exact ((((RB.new w h).alloc _).alloc _).alloc _).alloc _
  have c0 : Blk W4 (w.heap.size + 1) 3 #[.int .i64 i] := by
    have h0 := Blk.at_ (w.alloc (.cells (rgtA L) 42)) 3 #[.int .i64 i] (w.heap.size + 1) (by simp)
    rw [← hW4.out]; exact ((h0.alloc _).alloc _).alloc _
  have c1 : Blk W4 (w.heap.size + 2) 2 #[.int .i64 x] := by
    have h0 := Blk.at_ ((w.alloc (.cells (rgtA L) 42)).alloc (.cells #[.int .i64 i] 3)) 2 #[.int .i64 x] (w.heap.size + 2) (by simp)
    rw [← hW4.out]; exact (h0.alloc _).alloc _
  have z4 : RB W4 (w.heap.size + 3) Z54 := by
    have h0 := Blk.at_ (((w.alloc (.cells (rgtA L) 42)).alloc (.cells #[.int .i64 i] 3)).alloc (.cells #[.int .i64 x] 2)) 42 (rgtA Z54) (w.heap.size + 3) (by simp)
    rw [← hW4.out]; exact ⟨h0.alloc _, rfl⟩
  have hks : Ints W4 W4.heap.size (some ⟨w.heap.size + 4, 0, none⟩) [i] := by
    have h0 := ints_const ((((w.alloc (.cells (rgtA L) 42)).alloc (.cells #[.int .i64 i] 3)).alloc (.cells #[.int .i64 x] 2)).alloc (.cells (rgtA Z54) 42)) [i] 3 (0, 0)
    rw [show ((((w.alloc (.cells (rgtA L) 42)).alloc (.cells #[.int .i64 i] 3)).alloc (.cells #[.int .i64 x] 2)).alloc (.cells (rgtA Z54) 42)).heap.size = w.heap.size + 4 by simp] at h0
    rw [← hW4.out]; exact h0
  have CALL : Hid (Calls Try.prog 54 #[.agg (rgtA L), .int .i64 x, .slice (some ⟨w.heap.size + 4, 0, none⟩) 1 1, .func (.func 56) #[] #[.pointer (some ⟨w.heap.size + 2, 0, none⟩), .pointer (some ⟨w.heap.size + 1, 0, none⟩)]] W4
      fun e w' => e = .returned (.tuple #[.agg (rgtA (takeR L i x).1), .int .i64 (takeR L i x).2]) ∧ Below W4.heap.size W4 w') := by
    refine turned_any L h x [i] _ 1 1 56 _ (takeE L (i - 1).toNat x) W4 hks rfl (by omega) (fun _ _ => rfl) (fun hm h1 h2 hreg W t => ?_)
    obtain ⟨k, hk, hz, hk1⟩ := reg_nat (all_one hreg)
    subst hz
    rw [hk1]
    have tw := tu_tw (lc := [(w.heap.size + 2, x), (w.heap.size + 1, (k : Int) + 1)]) t (by
      intro p hp
      simp only [List.mem_cons, List.not_mem_nil, or_false] at hp
      rcases hp with rfl | rfl
      · exact ⟨c1.cell 0, by show w.heap.size + 2 < _; omega⟩
      · exact ⟨c0.cell 0, by show w.heap.size + 1 < _; omega⟩)
    refine (takeC L hm k hk x h1 h2 _ _ _ _ W W tw).mono ?_
    rintro e w2 ⟨rfl, t2⟩
    exact ⟨rfl, tw_tu t t2⟩
  have hl : (takeR L i x).1.length = 54 := guardLen ((enLen _ _ h).2.1)
  generalize takeR L i x = E at CALL hl ⊢
  have HL := Lib.hid hl
  clear hl
  have aR := run_allocR
  have l1 : (loadR (.pointer (some ⟨w.heap.size, 0, none⟩))).run Try.prog ((((w.alloc (.cells (rgtA L) 42)).alloc (.cells #[.int .i64 i] 3)).alloc (.cells #[.int .i64 x] 2)).alloc (.cells (rgtA Z54) 42)) = .ok (.agg (rgtA L)) ((((w.alloc (.cells (rgtA L) 42)).alloc (.cells #[.int .i64 i] 3)).alloc (.cells #[.int .i64 x] 2)).alloc (.cells (rgtA Z54) 42)) := run_loadR ((((RB.new w h).alloc _).alloc _).alloc _)
  have HR := Lib.hid hr
  have HZ := Lib.hid z4
  have HB := Lib.hid hb
  clear hr z4 hb hks h hW3 c0 c1
  go_enter Try.func41, Try.ntmps41
  go_wp2_with fail
  rw [hW4.out]
  refine CALL.out.mono ?_
  rintro e w5 ⟨rfl, hb5⟩
  have z5 := HZ.out.after hb5
  have s5 := run_storeR HL.out z5.blk rfl
  have b5 := below_setRow (HB.out.trans (hb5.mono HB.out.size)) (g := w.heap.size + 3) (by omega) (rgtA E.1)
  have HZ5 := Lib.hid z5
  clear hb5 z5 l1
  go_wp2_with fail
  exact bodyPost_ret (retR (g := w.heap.size + 3) ⟨HZ5.out.blk.row (rgtA E.1), HL.out⟩ Try.results41 _ rfl) rfl ⟨rfl, b5⟩
theorem free_any (L : List Int) (h : L.length = 54) (i x : Int) (w : World) :
    Calls Try.prog 47 #[.agg (rgtA L), .int .i64 i, .int .i64 x] w fun e w' => e = .returned (.tuple #[.agg (rgtA (freeR L i x).1), .int .i64 (freeR L i x).2]) ∧ Below w.heap.size w w' := by
  obtain ⟨W3, hW3⟩ : ∃ W3, Hid (((((w.alloc (.cells (rgtA L) 42)).alloc (.cells #[.int .i64 i] 3)).alloc (.cells #[.int .i64 x] 2)).alloc (.cells (rgtA Z54) 42)) = W3) := ⟨_, Lib.hid rfl⟩
  obtain ⟨W4, hW4⟩ : ∃ W4, Hid ((((((w.alloc (.cells (rgtA L) 42)).alloc (.cells #[.int .i64 i] 3)).alloc (.cells #[.int .i64 x] 2)).alloc (.cells (rgtA Z54) 42)).alloc (.cells #[.int .i64 i] 3)) = W4) := ⟨_, Lib.hid rfl⟩
  have hs : W4.heap.size = w.heap.size + 5 := by rw [← hW4.out]; simp
  have hb : Below w.heap.size w W4 := by
    rw [← hW4.out]
    exact (((((Below.refl _ _).alloc (by simp <;> omega) _).alloc (by simp <;> omega) _).alloc (by simp <;> omega) _).alloc (by simp <;> omega) _).alloc (by simp <;> omega) _
  have hr : RB W4 w.heap.size L := by rw [← hW4.out]; exact ((((RB.new w h).alloc _).alloc _).alloc _).alloc _
  have c0 : Blk W4 (w.heap.size + 1) 3 #[.int .i64 i] := by
    have h0 := Blk.at_ (w.alloc (.cells (rgtA L) 42)) 3 #[.int .i64 i] (w.heap.size + 1) (by simp)
    rw [← hW4.out]; exact ((h0.alloc _).alloc _).alloc _
  have c1 : Blk W4 (w.heap.size + 2) 2 #[.int .i64 x] := by
    have h0 := Blk.at_ ((w.alloc (.cells (rgtA L) 42)).alloc (.cells #[.int .i64 i] 3)) 2 #[.int .i64 x] (w.heap.size + 2) (by simp)
    rw [← hW4.out]; exact (h0.alloc _).alloc _
  have z4 : RB W4 (w.heap.size + 3) Z54 := by
    have h0 := Blk.at_ (((w.alloc (.cells (rgtA L) 42)).alloc (.cells #[.int .i64 i] 3)).alloc (.cells #[.int .i64 x] 2)) 42 (rgtA Z54) (w.heap.size + 3) (by simp)
    rw [← hW4.out]; exact ⟨h0.alloc _, rfl⟩
  have hks : Ints W4 W4.heap.size (some ⟨w.heap.size + 4, 0, none⟩) [i] := by
    have h0 := ints_const ((((w.alloc (.cells (rgtA L) 42)).alloc (.cells #[.int .i64 i] 3)).alloc (.cells #[.int .i64 x] 2)).alloc (.cells (rgtA Z54) 42)) [i] 3 (0, 0)
    rw [show ((((w.alloc (.cells (rgtA L) 42)).alloc (.cells #[.int .i64 i] 3)).alloc (.cells #[.int .i64 x] 2)).alloc (.cells (rgtA Z54) 42)).heap.size = w.heap.size + 4 by simp] at h0
    rw [← hW4.out]; exact h0
  have CALL : Hid (Calls Try.prog 54 #[.agg (rgtA L), .int .i64 x, .slice (some ⟨w.heap.size + 4, 0, none⟩) 1 1, .func (.func 58) #[] #[.pointer (some ⟨w.heap.size + 2, 0, none⟩), .pointer (some ⟨w.heap.size + 1, 0, none⟩)]] W4
      fun e w' => e = .returned (.tuple #[.agg (rgtA (freeR L i x).1), .int .i64 (freeR L i x).2]) ∧ Below W4.heap.size W4 w') := by
    refine turned_any L h x [i] _ 1 1 58 _ (freeE L (i - 1).toNat x) W4 hks rfl (by omega) (fun _ _ => rfl) (fun hm h1 h2 hreg W t => ?_)
    obtain ⟨k, hk, hz, hk1⟩ := reg_nat (all_one hreg)
    subst hz
    rw [hk1]
    have tw := tu_tw (lc := [(w.heap.size + 2, x), (w.heap.size + 1, (k : Int) + 1)]) t (by
      intro p hp
      simp only [List.mem_cons, List.not_mem_nil, or_false] at hp
      rcases hp with rfl | rfl
      · exact ⟨c1.cell 0, by show w.heap.size + 2 < _; omega⟩
      · exact ⟨c0.cell 0, by show w.heap.size + 1 < _; omega⟩)
    refine (freeC L hm k hk x h1 h2 _ _ _ _ W W tw).mono ?_
    rintro e w2 ⟨rfl, t2⟩
    exact ⟨rfl, tw_tu t t2⟩
  have hl : (freeR L i x).1.length = 54 := guardLen ((enLen _ _ h).2.2.1)
  generalize freeR L i x = E at CALL hl ⊢
  have HL := Lib.hid hl
  clear hl
  have aR := run_allocR
  have l1 : (loadR (.pointer (some ⟨w.heap.size, 0, none⟩))).run Try.prog ((((w.alloc (.cells (rgtA L) 42)).alloc (.cells #[.int .i64 i] 3)).alloc (.cells #[.int .i64 x] 2)).alloc (.cells (rgtA Z54) 42)) = .ok (.agg (rgtA L)) ((((w.alloc (.cells (rgtA L) 42)).alloc (.cells #[.int .i64 i] 3)).alloc (.cells #[.int .i64 x] 2)).alloc (.cells (rgtA Z54) 42)) := run_loadR ((((RB.new w h).alloc _).alloc _).alloc _)
  have HR := Lib.hid hr
  have HZ := Lib.hid z4
  have HB := Lib.hid hb
  clear hr z4 hb hks h hW3 c0 c1
  go_enter Try.func47, Try.ntmps47
  go_wp2_with fail
  rw [hW4.out]
  refine CALL.out.mono ?_
  rintro e w5 ⟨rfl, hb5⟩
  have z5 := HZ.out.after hb5
  have s5 := run_storeR HL.out z5.blk rfl
  have b5 := below_setRow (HB.out.trans (hb5.mono HB.out.size)) (g := w.heap.size + 3) (by omega) (rgtA E.1)
  have HZ5 := Lib.hid z5
  clear hb5 z5 l1
  go_wp2_with fail
  exact bodyPost_ret (retR (g := w.heap.size + 3) ⟨HZ5.out.blk.row (rgtA E.1), HL.out⟩ Try.results47 _ rfl) rfl ⟨rfl, b5⟩
theorem give_any (L : List Int) (h : L.length = 54) (i x : Int) (w : World) :
    Calls Try.prog 40 #[.agg (rgtA L), .int .i64 i, .int .i64 x] w fun e w' => e = .returned (.tuple #[.agg (rgtA (giveR L i x).1), .int .i64 (giveR L i x).2]) ∧ Below w.heap.size w w' := by
  obtain ⟨W3, hW3⟩ : ∃ W3, Hid ((((w.alloc (.cells (rgtA L) 42)).alloc (.cells #[.int .i64 i] 3)).alloc (.cells (rgtA Z54) 42)) = W3) := ⟨_, Lib.hid rfl⟩
  obtain ⟨W4, hW4⟩ : ∃ W4, Hid (((((w.alloc (.cells (rgtA L) 42)).alloc (.cells #[.int .i64 i] 3)).alloc (.cells (rgtA Z54) 42)).alloc (.cells #[.int .i64 i] 3)) = W4) := ⟨_, Lib.hid rfl⟩
  have hs : W4.heap.size = w.heap.size + 4 := by rw [← hW4.out]; simp
  have hb : Below w.heap.size w W4 := by
    rw [← hW4.out]
    exact ((((Below.refl _ _).alloc (by simp <;> omega) _).alloc (by simp <;> omega) _).alloc (by simp <;> omega) _).alloc (by simp <;> omega) _
  have hr : RB W4 w.heap.size L := by rw [← hW4.out]; exact (((RB.new w h).alloc _).alloc _).alloc _
  have c0 : Blk W4 (w.heap.size + 1) 3 #[.int .i64 i] := by
    have h0 := Blk.at_ (w.alloc (.cells (rgtA L) 42)) 3 #[.int .i64 i] (w.heap.size + 1) (by simp)
    rw [← hW4.out]; exact (h0.alloc _).alloc _
  have z4 : RB W4 (w.heap.size + 2) Z54 := by
    have h0 := Blk.at_ ((w.alloc (.cells (rgtA L) 42)).alloc (.cells #[.int .i64 i] 3)) 42 (rgtA Z54) (w.heap.size + 2) (by simp)
    rw [← hW4.out]; exact ⟨h0.alloc _, rfl⟩
  have hks : Ints W4 W4.heap.size (some ⟨w.heap.size + 3, 0, none⟩) [i] := by
    have h0 := ints_const (((w.alloc (.cells (rgtA L) 42)).alloc (.cells #[.int .i64 i] 3)).alloc (.cells (rgtA Z54) 42)) [i] 3 (0, 0)
    rw [show (((w.alloc (.cells (rgtA L) 42)).alloc (.cells #[.int .i64 i] 3)).alloc (.cells (rgtA Z54) 42)).heap.size = w.heap.size + 3 by simp] at h0
    rw [← hW4.out]; exact h0
  have CALL : Hid (Calls Try.prog 54 #[.agg (rgtA L), .int .i64 x, .slice (some ⟨w.heap.size + 3, 0, none⟩) 1 1, .func (.func 55) #[] #[.pointer (some ⟨w.heap.size + 1, 0, none⟩)]] W4
      fun e w' => e = .returned (.tuple #[.agg (rgtA (giveR L i x).1), .int .i64 (giveR L i x).2]) ∧ Below W4.heap.size W4 w') := by
    refine turned_any L h x [i] _ 1 1 55 _ (giveE L (i - 1).toNat x) W4 hks rfl (by omega) (fun _ _ => rfl) (fun hm h1 h2 hreg W t => ?_)
    obtain ⟨k, hk, hz, hk1⟩ := reg_nat (all_one hreg)
    subst hz
    rw [hk1]
    have tw := tu_tw (lc := [(w.heap.size + 1, (k : Int) + 1)]) t (by
      intro p hp
      simp only [List.mem_cons, List.not_mem_nil, or_false] at hp
      rcases hp with rfl
      · exact ⟨c0.cell 0, by show w.heap.size + 1 < _; omega⟩)
    refine (giveC L hm k hk x h1 h2 _ _ _ W W tw).mono ?_
    rintro e w2 ⟨rfl, t2⟩
    exact ⟨rfl, tw_tu t t2⟩
  have hl : (giveR L i x).1.length = 54 := guardLen ((enLen _ _ h).1)
  generalize giveR L i x = E at CALL hl ⊢
  have HL := Lib.hid hl
  clear hl
  have aR := run_allocR
  have l1 : (loadR (.pointer (some ⟨w.heap.size, 0, none⟩))).run Try.prog (((w.alloc (.cells (rgtA L) 42)).alloc (.cells #[.int .i64 i] 3)).alloc (.cells (rgtA Z54) 42)) = .ok (.agg (rgtA L)) (((w.alloc (.cells (rgtA L) 42)).alloc (.cells #[.int .i64 i] 3)).alloc (.cells (rgtA Z54) 42)) := run_loadR (((RB.new w h).alloc _).alloc _)
  have HR := Lib.hid hr
  have HZ := Lib.hid z4
  have HB := Lib.hid hb
  clear hr z4 hb hks h hW3 c0
  go_enter Try.func40, Try.ntmps40
  go_wp2_with fail
  rw [hW4.out]
  refine CALL.out.mono ?_
  rintro e w5 ⟨rfl, hb5⟩
  have z5 := HZ.out.after hb5
  have s5 := run_storeR HL.out z5.blk rfl
  have b5 := below_setRow (HB.out.trans (hb5.mono HB.out.size)) (g := w.heap.size + 2) (by omega) (rgtA E.1)
  have HZ5 := Lib.hid z5
  clear hb5 z5 l1
  go_wp2_with fail
  exact bodyPost_ret (retR (g := w.heap.size + 2) ⟨HZ5.out.blk.row (rgtA E.1), HL.out⟩ Try.results40 _ rfl) rfl ⟨rfl, b5⟩
theorem move_any (L : List Int) (h : L.length = 54) (i j x : Int) (w : World) :
    Calls Try.prog 42 #[.agg (rgtA L), .int .i64 i, .int .i64 j, .int .i64 x] w fun e w' => e = .returned (.tuple #[.agg (rgtA (moveR L i j x).1), .int .i64 (moveR L i j x).2]) ∧ Below w.heap.size w w' := by
  obtain ⟨W3, hW3⟩ : ∃ W3, Hid ((((((w.alloc (.cells (rgtA L) 42)).alloc (.cells #[.int .i64 i] 3)).alloc (.cells #[.int .i64 j] 3)).alloc (.cells #[.int .i64 x] 2)).alloc (.cells (rgtA Z54) 42)) = W3) := ⟨_, Lib.hid rfl⟩
  obtain ⟨W4, hW4⟩ : ∃ W4, Hid (((((((w.alloc (.cells (rgtA L) 42)).alloc (.cells #[.int .i64 i] 3)).alloc (.cells #[.int .i64 j] 3)).alloc (.cells #[.int .i64 x] 2)).alloc (.cells (rgtA Z54) 42)).alloc (.cells #[.int .i64 i, .int .i64 j] 3)) = W4) := ⟨_, Lib.hid rfl⟩
  have hs : W4.heap.size = w.heap.size + 6 := by rw [← hW4.out]; simp
  have hb : Below w.heap.size w W4 := by
    rw [← hW4.out]
    exact ((((((Below.refl _ _).alloc (by simp <;> omega) _).alloc (by simp <;> omega) _).alloc (by simp <;> omega) _).alloc (by simp <;> omega) _).alloc (by simp <;> omega) _).alloc (by simp <;> omega) _
  have hr : RB W4 w.heap.size L := by rw [← hW4.out]; exact (((((RB.new w h).alloc _).alloc _).alloc _).alloc _).alloc _
  have c0 : Blk W4 (w.heap.size + 1) 3 #[.int .i64 i] := by
    have h0 := Blk.at_ (w.alloc (.cells (rgtA L) 42)) 3 #[.int .i64 i] (w.heap.size + 1) (by simp)
    rw [← hW4.out]; exact (((h0.alloc _).alloc _).alloc _).alloc _
  have c1 : Blk W4 (w.heap.size + 2) 3 #[.int .i64 j] := by
    have h0 := Blk.at_ ((w.alloc (.cells (rgtA L) 42)).alloc (.cells #[.int .i64 i] 3)) 3 #[.int .i64 j] (w.heap.size + 2) (by simp)
    rw [← hW4.out]; exact ((h0.alloc _).alloc _).alloc _
  have c2 : Blk W4 (w.heap.size + 3) 2 #[.int .i64 x] := by
    have h0 := Blk.at_ (((w.alloc (.cells (rgtA L) 42)).alloc (.cells #[.int .i64 i] 3)).alloc (.cells #[.int .i64 j] 3)) 2 #[.int .i64 x] (w.heap.size + 3) (by simp)
    rw [← hW4.out]; exact (h0.alloc _).alloc _
  have z4 : RB W4 (w.heap.size + 4) Z54 := by
    have h0 := Blk.at_ ((((w.alloc (.cells (rgtA L) 42)).alloc (.cells #[.int .i64 i] 3)).alloc (.cells #[.int .i64 j] 3)).alloc (.cells #[.int .i64 x] 2)) 42 (rgtA Z54) (w.heap.size + 4) (by simp)
    rw [← hW4.out]; exact ⟨h0.alloc _, rfl⟩
  have hks : Ints W4 W4.heap.size (some ⟨w.heap.size + 5, 0, none⟩) [i, j] := by
    have h0 := ints_const (((((w.alloc (.cells (rgtA L) 42)).alloc (.cells #[.int .i64 i] 3)).alloc (.cells #[.int .i64 j] 3)).alloc (.cells #[.int .i64 x] 2)).alloc (.cells (rgtA Z54) 42)) [i, j] 3 (0, 0)
    rw [show (((((w.alloc (.cells (rgtA L) 42)).alloc (.cells #[.int .i64 i] 3)).alloc (.cells #[.int .i64 j] 3)).alloc (.cells #[.int .i64 x] 2)).alloc (.cells (rgtA Z54) 42)).heap.size = w.heap.size + 5 by simp] at h0
    rw [← hW4.out]; exact h0
  have CALL : Hid (Calls Try.prog 54 #[.agg (rgtA L), .int .i64 x, .slice (some ⟨w.heap.size + 5, 0, none⟩) 2 2, .func (.func 57) #[] #[.pointer (some ⟨w.heap.size + 1, 0, none⟩), .pointer (some ⟨w.heap.size + 2, 0, none⟩), .pointer (some ⟨w.heap.size + 3, 0, none⟩)]] W4
      fun e w' => e = .returned (.tuple #[.agg (rgtA (moveR L i j x).1), .int .i64 (moveR L i j x).2]) ∧ Below W4.heap.size W4 w') := by
    refine turned_any L h x [i, j] _ 2 2 57 _ (moveE L (i - 1).toNat (j - 1).toNat x) W4 hks rfl (by omega) (fun _ _ => rfl) (fun hm h1 h2 hreg W t => ?_)
    obtain ⟨r1, r2⟩ := all_two hreg
    obtain ⟨k, hk, hz, hk1⟩ := reg_nat r1
    obtain ⟨q, hq, hy, hq1⟩ := reg_nat r2
    subst hz hy
    rw [hk1, hq1]
    have tw := tu_tw (lc := [(w.heap.size + 3, x), (w.heap.size + 1, (k : Int) + 1), (w.heap.size + 2, (q : Int) + 1)]) t (by
      intro p hp
      simp only [List.mem_cons, List.not_mem_nil, or_false] at hp
      rcases hp with rfl | rfl | rfl
      · exact ⟨c2.cell 0, by show w.heap.size + 3 < _; omega⟩
      · exact ⟨c0.cell 0, by show w.heap.size + 1 < _; omega⟩
      · exact ⟨c1.cell 0, by show w.heap.size + 2 < _; omega⟩)
    refine (moveC L hm k hk q hq x h1 h2 _ _ _ _ _ W W tw).mono ?_
    rintro e w2 ⟨rfl, t2⟩
    exact ⟨rfl, tw_tu t t2⟩
  have hl : (moveR L i j x).1.length = 54 := guardLen ((enLen _ _ h).2.2.2 _)
  generalize moveR L i j x = E at CALL hl ⊢
  have HL := Lib.hid hl
  clear hl
  have aR := run_allocR
  have l1 : (loadR (.pointer (some ⟨w.heap.size, 0, none⟩))).run Try.prog (((((w.alloc (.cells (rgtA L) 42)).alloc (.cells #[.int .i64 i] 3)).alloc (.cells #[.int .i64 j] 3)).alloc (.cells #[.int .i64 x] 2)).alloc (.cells (rgtA Z54) 42)) = .ok (.agg (rgtA L)) (((((w.alloc (.cells (rgtA L) 42)).alloc (.cells #[.int .i64 i] 3)).alloc (.cells #[.int .i64 j] 3)).alloc (.cells #[.int .i64 x] 2)).alloc (.cells (rgtA Z54) 42)) := run_loadR (((((RB.new w h).alloc _).alloc _).alloc _).alloc _)
  have HR := Lib.hid hr
  have HZ := Lib.hid z4
  have HB := Lib.hid hb
  clear hr z4 hb hks h hW3 c0 c1 c2
  go_enter Try.func42, Try.ntmps42
  go_wp2_with fail
  rw [hW4.out]
  refine CALL.out.mono ?_
  rintro e w5 ⟨rfl, hb5⟩
  have z5 := HZ.out.after hb5
  have s5 := run_storeR HL.out z5.blk rfl
  have b5 := below_setRow (HB.out.trans (hb5.mono HB.out.size)) (g := w.heap.size + 4) (by omega) (rgtA E.1)
  have HZ5 := Lib.hid z5
  clear hb5 z5 l1
  go_wp2_with fail
  exact bodyPost_ret (retR (g := w.heap.size + 4) ⟨HZ5.out.blk.row (rgtA E.1), HL.out⟩ Try.results42 _ rfl) rfl ⟨rfl, b5⟩
end Go.Proofs.Ytmddbpkojboogaa
