import Derived.Test.YtmddbpkojboogaaRfD
import Derived.Test.YtmddbpkojboogaaRgS
namespace Go.Proofs.Ytmddbpkojboogaa
open Go.RowKit
/-! leatlaw07: a step of the document. -/
attribute [local go_sem ↓] exec_loadR exec_storeR exec_allocR exec_buildR
set_option maxRecDepth 100000
set_option maxHeartbeats 2000000
theorem did_any (s : RStep) (hs : s.d < 256) (L : List Int) (h : L.length = 54) (w : World) :
    Calls Try.prog 28 #[.agg (stepA s), .agg (rgtA L)] w fun e w' => e = .returned (.tuple #[.agg (rgtA (doesR s L).1), .int .i64 (doesR s L).2]) ∧ Below w.heap.size w w' := by
  have t0 : DB w _ s L := DB.first h
  have aR := run_allocR
  have l1 := run_loadR t0.r
  have c0 := t0.d
  have c1 := t0.i
  have c2 := t0.j
  have c3 := t0.x
  have hl := does_len (s := s) h
  have H54 := Lib.hid h
  have hd0 : (0 : Int) ≤ (s.d : Int) := by omega
  have hd1 : (s.d : Int) < 256 := by omega
  rcases (show s.d % 4 = 0 ∨ s.d % 4 = 1 ∨ s.d % 4 = 2 ∨ s.d % 4 = 3 by omega) with hr | hr | hr | hr
  case' inl =>
    have hri : (s.d : Int) % 4 = 0 := by omega
    have EV : Hid (doesR s L = giveR L s.i s.x) := by show _ = _; unfold doesR; rw [if_pos hr]
    rw [EV.out] at hl ⊢
    have C : Hid (∀ W, Calls Try.prog 48 #[.agg (rgtA L), .int .i64 s.i, .int .i64 s.x] W fun e w' => e = .returned (.tuple #[.agg (rgtA (giveR L s.i s.x).1), .int .i64 (giveR L s.i s.x).2]) ∧ Below W.heap.size W w') := r7give_any L h s.i s.x
    generalize giveR L s.i s.x = E at hl C ⊢
  case' inr.inl =>
    have hri : (s.d : Int) % 4 = 1 := by omega
    have EV : Hid (doesR s L = takeR L s.i s.x) := by show _ = _; unfold doesR; rw [if_neg (by omega), if_pos hr]
    rw [EV.out] at hl ⊢
    have C : Hid (∀ W, Calls Try.prog 49 #[.agg (rgtA L), .int .i64 s.i, .int .i64 s.x] W fun e w' => e = .returned (.tuple #[.agg (rgtA (takeR L s.i s.x).1), .int .i64 (takeR L s.i s.x).2]) ∧ Below W.heap.size W w') := r7take_any L h s.i s.x
    generalize takeR L s.i s.x = E at hl C ⊢
  case' inr.inr.inl =>
    have hri : (s.d : Int) % 4 = 2 := by omega
    have EV : Hid (doesR s L = freeR L s.i s.x) := by show _ = _; unfold doesR; rw [if_neg (by omega), if_neg (by omega), if_pos hr]
    rw [EV.out] at hl ⊢
    have C : Hid (∀ W, Calls Try.prog 50 #[.agg (rgtA L), .int .i64 s.i, .int .i64 s.x] W fun e w' => e = .returned (.tuple #[.agg (rgtA (freeR L s.i s.x).1), .int .i64 (freeR L s.i s.x).2]) ∧ Below W.heap.size W w') := r7free_any L h s.i s.x
    generalize freeR L s.i s.x = E at hl C ⊢
  case' inr.inr.inr =>
    have hri : (s.d : Int) % 4 = 3 := by omega
    have EV : Hid (doesR s L = moveR L s.i s.j s.x) := by show _ = _; unfold doesR; rw [if_neg (by omega), if_neg (by omega), if_neg (by omega)]
    rw [EV.out] at hl ⊢
    have C : Hid (∀ W, Calls Try.prog 51 #[.agg (rgtA L), .int .i64 s.i, .int .i64 s.j, .int .i64 s.x] W fun e w' => e = .returned (.tuple #[.agg (rgtA (moveR L s.i s.j s.x).1), .int .i64 (moveR L s.i s.j s.x).2]) ∧ Below W.heap.size W w') := r7move_any L h s.i s.j s.x
    generalize moveR L s.i s.j s.x = E at hl C ⊢
  all_goals
    have HL := Lib.hid hl
    clear hl EV hr h
    go_enter Try.func28, Try.ntmps28
    go_wp2_with fail
    refine (C.out _).mono ?_
    rintro e w2 ⟨rfl, hb⟩
    have s2 := run_storeR HL.out (t0.z.after hb).blk rfl
    have z2 := Lib.hid (t0.z.after hb)
    have b2 := Lib.hid (t0.bel.trans (hb.mono t0.bel.size))
    clear hb t0 l1 c0 c1 c2 c3
    go_wp2_with fail
    exact bodyPost_ret (retR (g := w.heap.size + 2) ⟨z2.out.blk.row (rgtA E.1), HL.out⟩ Try.results28 _ rfl) rfl ⟨rfl, below_setRow b2.out (by omega) _⟩
end Go.Proofs.Ytmddbpkojboogaa
