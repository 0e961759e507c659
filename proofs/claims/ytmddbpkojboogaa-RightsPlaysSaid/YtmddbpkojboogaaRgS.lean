import Derived.Test.YtmddbpkojboogaaRgP
namespace Go.Proofs.Ytmddbpkojboogaa
open Go.RowKit
/-! rights: a step. -/
attribute [local go_sem ↓] exec_loadR exec_storeR exec_allocR exec_buildR
def stepA (s : RStep) : Array Value := (stepL s).toArray
theorem infoS : (Try.prog.info? 49).map (·.size) = some 4 := by kernel_rfl
def doesR (s : RStep) (L : List Int) : List Int × Int :=
  if s.d % 4 = 0 then giveR L s.i s.x else if s.d % 4 = 1 then takeR L s.i s.x else if s.d % 4 = 2 then freeR L s.i s.x else moveR L s.i s.j s.x
theorem does_len {s : RStep} {L : List Int} (h : L.length = 54) : (doesR s L).1.length = 54 := by
  unfold doesR
  split
  · exact guardLen (enLen _ _ h).1
  · split
    · exact guardLen (enLen _ _ h).2.1
    · split
      · exact guardLen (enLen _ _ h).2.2.1
      · exact guardLen ((enLen _ _ h).2.2.2 _)
/-- the blocks of a step's call. -/
structure DB (w W : World) (s : RStep) (L : List Int) : Prop where
  d : W.cell? ⟨w.heap.size, 0, none⟩ = some (.int .u8 (s.d : Int))
  i : W.cell? ⟨w.heap.size, 1, none⟩ = some (.int .i64 s.i)
  j : W.cell? ⟨w.heap.size, 2, none⟩ = some (.int .i64 s.j)
  x : W.cell? ⟨w.heap.size, 3, none⟩ = some (.int .i64 s.x)
  r : RB W (w.heap.size + 1) L
  z : RB W (w.heap.size + 2) Z54
  bel : Below w.heap.size w W
theorem DB.first {w : World} {s : RStep} {L : List Int} (h : L.length = 54) : DB w (((w.alloc (.cells (stepA s) 49)).alloc (.cells (rgtA L) 42)).alloc (.cells (rgtA Z54) 42)) s L := by
  have b0 : Blk (((w.alloc (.cells (stepA s) 49)).alloc (.cells (rgtA L) 42)).alloc (.cells (rgtA Z54) 42)) w.heap.size 49 (stepA s) := ((Blk.new w _ _).alloc _).alloc _
  refine ⟨b0.cell 0, b0.cell 1, b0.cell 2, b0.cell 3, ?_, ?_, (((Below.refl _ _).alloc (Nat.le_refl _) _).alloc (by simp) _).alloc (by simp; omega) _⟩
  · exact ⟨(Blk.at_ (w.alloc (.cells (stepA s) 49)) 42 (rgtA L) (w.heap.size + 1) (by simp)).alloc _, h⟩
  · exact ⟨Blk.at_ ((w.alloc (.cells (stepA s) 49)).alloc (.cells (rgtA L) 42)) 42 (rgtA Z54) (w.heap.size + 2) (by simp), rfl⟩
set_option maxRecDepth 100000
set_option maxHeartbeats 2000000
theorem does_any (s : RStep) (hs : s.d < 256) (L : List Int) (h : L.length = 54) (w : World) :
    Calls Try.prog 27 #[.agg (stepA s), .agg (rgtA L)] w fun e w' => e = .returned (.tuple #[.agg (rgtA (doesR s L).1), .int .i64 (doesR s L).2]) ∧ Below w.heap.size w w' := by
  have t0 : DB w _ s L := DB.first h
  have aR := run_allocR
  have l1 := run_loadR t0.r
  have c0 := t0.d
  have c1 := t0.i
  have c2 := t0.j
  have c3 := t0.x
  have hl := does_len (s := s) h
  have H54 := Lib.hid h
  have hd0 : (0 : Int) ≤ (s.d : Int) := by omega
  have hd1 : (s.d : Int) < 256 := by omega
  rcases (show s.d % 4 = 0 ∨ s.d % 4 = 1 ∨ s.d % 4 = 2 ∨ s.d % 4 = 3 by omega) with hr | hr | hr | hr
  case' inl =>
    have hri : (s.d : Int) % 4 = 0 := by omega
    have EV : Hid (doesR s L = giveR L s.i s.x) := by show _ = _; unfold doesR; rw [if_pos hr]
    rw [EV.out] at hl ⊢
    have C : Hid (∀ W, Calls Try.prog 40 #[.agg (rgtA L), .int .i64 s.i, .int .i64 s.x] W fun e w' => e = .returned (.tuple #[.agg (rgtA (giveR L s.i s.x).1), .int .i64 (giveR L s.i s.x).2]) ∧ Below W.heap.size W w') := give_any L h s.i s.x
    generalize giveR L s.i s.x = E at hl C ⊢
  case' inr.inl =>
    have hri : (s.d : Int) % 4 = 1 := by omega
    have EV : Hid (doesR s L = takeR L s.i s.x) := by show _ = _; unfold doesR; rw [if_neg (by omega), if_pos hr]
    rw [EV.out] at hl ⊢
    have C : Hid (∀ W, Calls Try.prog 41 #[.agg (rgtA L), .int .i64 s.i, .int .i64 s.x] W fun e w' => e = .returned (.tuple #[.agg (rgtA (takeR L s.i s.x).1), .int .i64 (takeR L s.i s.x).2]) ∧ Below W.heap.size W w') := take_any L h s.i s.x
    generalize takeR L s.i s.x = E at hl C ⊢
  case' inr.inr.inl =>
    have hri : (s.d : Int) % 4 = 2 := by omega
    have EV : Hid (doesR s L = freeR L s.i s.x) := by show _ = _; unfold doesR; rw [if_neg (by omega), if_neg (by omega), if_pos hr]
    rw [EV.out] at hl ⊢
    have C : Hid (∀ W, Calls Try.prog 47 #[.agg (rgtA L), .int .i64 s.i, .int .i64 s.x] W fun e w' => e = .returned (.tuple #[.agg (rgtA (freeR L s.i s.x).1), .int .i64 (freeR L s.i s.x).2]) ∧ Below W.heap.size W w') := free_any L h s.i s.x
    generalize freeR L s.i s.x = E at hl C ⊢
  case' inr.inr.inr =>
    have hri : (s.d : Int) % 4 = 3 := by omega
    have EV : Hid (doesR s L = moveR L s.i s.j s.x) := by show _ = _; unfold doesR; rw [if_neg (by omega), if_neg (by omega), if_neg (by omega)]
    rw [EV.out] at hl ⊢
    have C : Hid (∀ W, Calls Try.prog 42 #[.agg (rgtA L), .int .i64 s.i, .int .i64 s.j, .int .i64 s.x] W fun e w' => e = .returned (.tuple #[.agg (rgtA (moveR L s.i s.j s.x).1), .int .i64 (moveR L s.i s.j s.x).2]) ∧ Below W.heap.size W w') := move_any L h s.i s.j s.x
    generalize moveR L s.i s.j s.x = E at hl C ⊢
  all_goals
    have HL := Lib.hid hl
    clear hl EV hr h
    go_enter Try.func27, Try.ntmps27
    go_wp2_with fail
    refine (C.out _).mono ?_
    rintro e w2 ⟨rfl, hb⟩
    have s2 := run_storeR HL.out (t0.z.after hb).blk rfl
    have z2 := Lib.hid (t0.z.after hb)
    have b2 := Lib.hid (t0.bel.trans (hb.mono t0.bel.size))
    clear hb t0 l1 c0 c1 c2 c3
    go_wp2_with fail
    exact bodyPost_ret (retR (g := w.heap.size + 2) ⟨z2.out.blk.row (rgtA E.1), HL.out⟩ Try.results27 _ rfl) rfl ⟨rfl, below_setRow b2.out (by omega) _⟩
end Go.Proofs.Ytmddbpkojboogaa
