import Derived.Test.YtjihbjjekhncaaaEvRf
import Derived.Test.YtjihbjjekhncaaaEvTu
namespace Go.Proofs.Ytjihbjjekhncaaa
open Go.RowKit
/-! leatref08: Take. -/
theorem vl_take1 (r : List UInt8) (k : Nat) (h : k < r.length) : vl ((r.drop k).take 1) = r[k].toNat := by
  have := vl_next r k 0 (by omega)
  simpa [vl] using this.symm
theorem ofB_eq (r : List UInt8) : ofB r = ⟨((vl ((r.drop 0).take 1) : Nat) : Int), vl ((r.drop 1).take 8), ofV ((r.drop 9).take 48) 6, vl ((r.drop 57).take 1), vl ((r.drop 58).take 8), ((vl ((r.drop 66).take 1) : Nat) : Int), IntKind.i64.wrap ((vl ((r.drop 67).take 8) : Nat) : Int), vl ((r.drop 75).take 8), vl ((r.drop 83).take 8)⟩ := by
  simp [ofB, List.drop_drop]
theorem ofV_getD : ∀ (n : Nat) (bs : List UInt8) (k : Nat), k < n → (ofV bs n).getD k 0 = vl ((bs.drop (8 * k)).take 8)
  | 0, _, _, h => by omega
  | n + 1, bs, 0, _ => by simp [ofV, vl_num]
  | n + 1, bs, k + 1, h => by
    have := ofV_getD n (bs.drop 8) k (by omega)
    rw [ofV, List.getD_cons_succ, this, List.drop_drop, show 8 + 8 * k = 8 * (k + 1) by omega]
theorem ofV_at (r : List UInt8) (j : Nat) (h : j < 6) : vl ((r.drop (9 + 8 * j)).take 8) = (ofV ((r.drop 9).take 48) 6).getD j 0 := by
  rw [ofV_getD 6 _ j h, List.drop_take, List.take_take, List.drop_drop, Nat.min_eq_left (by omega)]
def mixD (D : List Nat) (j : Nat) : List Nat := D.take j ++ Z6.drop j
theorem mixD_len {D : List Nat} (h : D.length = 6) (j : Nat) (hj : j ≤ 6) : (mixD D j).length = 6 := by
  unfold mixD; simp [Z6, h]; omega
theorem mixD_set {D : List Nat} (h : D.length = 6) (j : Nat) (hj : j < 6) : (mixD D j).set j (D.getD j 0) = mixD D (j + 1) := by
  obtain ⟨y0, y1, y2, y3, y4, y5, rfl⟩ := six h
  match j, hj with
  | 0, _ => rfl
  | 1, _ => rfl
  | 2, _ => rfl
  | 3, _ => rfl
  | 4, _ => rfl
  | 5, _ => rfl
theorem mixD_0 (D : List Nat) : mixD D 0 = Z6 := rfl
theorem mixD_6 {D : List Nat} (h : D.length = 6) : mixD D 6 = D := by
  obtain ⟨y0, y1, y2, y3, y4, y5, rfl⟩ := six h
  rfl
theorem evA_setd {e : Ev} (h : e.d.length = 6) (j : Nat) (hj : j < 6) (x : Nat) : (evA e).setIfInBounds (2 + j) (.int .u64 (x : Int)) = evA { e with d := e.d.set j x } := by
  obtain ⟨o, s, d, k, n, t, a, r, f⟩ := e
  obtain ⟨y0, y1, y2, y3, y4, y5, rfl⟩ := six h
  match j, hj with
  | 0, _ => rfl
  | 1, _ => rfl
  | 2, _ => rfl
  | 3, _ => rfl
  | 4, _ => rfl
  | 5, _ => rfl
theorem number_z (A : Option Addr) (c : Nat) (bs : List UInt8) (z : Int) (a x : Nat) (w : World) (hb : Bytes w w.heap.size A bs) (hl : bs.length = 91) (hz : z = (a : Int)) (ha : a + 8 ≤ 91) (hx : vl ((bs.drop a).take 8) = x) :
    Calls Try.prog 56 #[.slice A 91 c, .int .i64 z] w fun e w' => e = .returned (.int .u64 (x : Int)) ∧ w = w' := by
  subst hz hx
  exact number_any A 91 c bs a w hb hl.symm (by omega) (by omega)
theorem run_buildE8 (x1 z5 z6 : Int) (x2 x3 x4 x7 x8 : Nat) (W : World) : (buildE #[(0, .int .i64 x1), (1, .int .u64 (x2 : Int)), (3, .int .u8 (x3 : Int)), (4, .int .u64 (x4 : Int)), (5, .int .i64 z5), (6, .int .i64 z6), (7, .int .u64 (x7 : Int)), (8, .int .u64 (x8 : Int))]).run Try.prog W = .ok (.agg (evA ⟨x1, x2, Z6, x3, x4, z5, z6, x7, x8⟩)) W := by
  unfold buildE
  go_simp
  rfl
section
variable {a : Act} {W : World} {dst : Option Tmp} {ty : TypeId} {pos : String} {after : Array Edge} {guard : Option (Nat × Bool)}
theorem ex_allocE : (execOp a.eval ⟨dst, .alloc 26, ty, pos, after, guard⟩).run Try.prog W = .ok (.value (.pointer (some ⟨W.heap.size, 0, none⟩))) (W.alloc (.cells (evA E0) 26)) := by
  rw [exec_allocE]; simp only [Sem.run_bind, run_allocE, Result.andThen_ok, Sem.run_pure]
theorem ex_storeE {x y : Operand} {g : Nat} {e e' : Ev} (hx : a.eval x = .pointer (some ⟨g, 0, none⟩)) (hy : a.eval y = .agg (evA e)) (d6 : e.d.length = 6) (h : EB W g e') :
    (execOp a.eval ⟨dst, .store 26 x y, ty, pos, after, guard⟩).run Try.prog W = .ok .skip (W.setRow g (evA e)) := by
  rw [exec_storeE, hx, hy]; simp only [Sem.run_bind, run_storeE d6 h.blk (evA_size h.d6), Result.andThen_ok, Sem.run_pure]
theorem ex_build8 {o1 o2 o3 o4 o5 o6 o7 o8 : Operand} {x1 z5 z6 : Int} {x2 x3 x4 x7 x8 : Nat} (h1 : a.eval o1 = .int .i64 x1) (h2 : a.eval o2 = .int .u64 (x2 : Int)) (h3 : a.eval o3 = .int .u8 (x3 : Int)) (h4 : a.eval o4 = .int .u64 (x4 : Int)) (h5 : a.eval o5 = .int .i64 z5) (h6 : a.eval o6 = .int .i64 z6) (h7 : a.eval o7 = .int .u64 (x7 : Int)) (h8 : a.eval o8 = .int .u64 (x8 : Int)) :
    (execOp a.eval ⟨dst, .build 26 #[(0, o1), (1, o2), (3, o3), (4, o4), (5, o5), (6, o6), (7, o7), (8, o8)], ty, pos, after, guard⟩).run Try.prog W = .ok (.value (.agg (evA ⟨x1, x2, Z6, x3, x4, z5, z6, x7, x8⟩))) W := by
  have e : execOp a.eval ⟨dst, .build 26 #[(0, o1), (1, o2), (3, o3), (4, o4), (5, o5), (6, o6), (7, o7), (8, o8)], ty, pos, after, guard⟩ = (do pure (.value (← buildE #[(0, a.eval o1), (1, a.eval o2), (3, a.eval o3), (4, a.eval o4), (5, a.eval o5), (6, a.eval o6), (7, a.eval o7), (8, a.eval o8)]))) := by
    unfold execOp buildE; simp
  rw [e, h1, h2, h3, h4, h5, h6, h7, h8]
  simp only [Sem.run_bind, run_buildE8, Result.andThen_ok, Sem.run_pure]
theorem ex_idxB {x : Operand} {b o n c k : Nat} {z : Int} (hx : a.eval x = .slice (some ⟨b, o, none⟩) n c) (hz : z = (k : Int)) (hk : k < n) (hn : n ≤ 91) :
    (execOp a.eval ⟨dst, .indexAddr 27 x (.const (.int .i64 z)), ty, pos, after, guard⟩).run Try.prog W = .ok (.value (.pointer (some ⟨b, o + k, none⟩))) W := by
  subst hz
  have hk2 : (k : Int) < (n : Int) := by omega
  have hk0 : (0 : Int) ≤ (k : Int) := by omega
  have h2 : (Instr.indexAt 27 (.slice (some ⟨b, o, none⟩) n c) (.int .i64 (k : Int))).run Try.prog W = .ok (.pointer (some ⟨b, o + k, none⟩)) W := by go_simp
  have e : execOp a.eval ⟨dst, .indexAddr 27 x (.const (.int .i64 (k : Int))), ty, pos, after, guard⟩ = (do pure (.value (← Instr.indexAt 27 (a.eval x) (.int .i64 (k : Int))))) := rfl
  rw [e, hx]
  simp only [Sem.run_bind, h2, Result.andThen_ok, Sem.run_pure]
theorem ex_loadB {x : Operand} {p : Addr} {v : Value} (hx : a.eval x = .pointer (some p)) (hc : W.cell? p = some v) :
    (execOp a.eval ⟨dst, .load 5 x, ty, pos, after, guard⟩).run Try.prog W = .ok (.value v) W := by
  have h2 : (Instr.loadAt 5 (.pointer (some p))).run Try.prog W = .ok v W := by go_simp
  have e : execOp a.eval ⟨dst, .load 5 x, ty, pos, after, guard⟩ = (do pure (.value (← Instr.loadAt 5 (a.eval x)))) := rfl
  rw [e, hx]
  simp only [Sem.run_bind, h2, Result.andThen_ok, Sem.run_pure]
end
/-- what Take has read: how far it is. -/
structure TR (w : World) (b off : Nat) (r : List UInt8) (e1 : Ev) (pa ps : Bool) (t : Array Value) (W : World) : Prop where
  bel : Below w.heap.size w W
  res : EB W w.heap.size E0
  byt : Bytes W w.heap.size (some ⟨b, off, none⟩) r
  al : pa = true → ps = false → ∃ g, t.getD 8 undef = .pointer (some ⟨g, 0, none⟩) ∧ w.heap.size < g ∧ EB W g E0
  st : ps = true → ∃ g, t.getD 8 undef = .pointer (some ⟨g, 0, none⟩) ∧ w.heap.size < g ∧ EB W g e1
section
variable {w W : World} {b off : Nat} {r : List UInt8} {e1 : Ev} {pa ps : Bool} {a : Act}
theorem TR.first {t : Array Value} (hb : Below w.heap.size w W) (hr : EB W w.heap.size E0) (hy : Bytes W w.heap.size (some ⟨b, off, none⟩) r) : TR w b off r e1 false false t W.drew :=
  ⟨hb.drew, hr.drew, hy, (fun x => by cases x), (fun x => by cases x)⟩
theorem TR.put {dst : Option Tmp} {v : Value} (h : TR w b off r e1 pa ps a.tmps W) (h1 : dst ≠ some 8) : TR w b off r e1 pa ps (a.put dst v).tmps W :=
  ⟨h.bel, h.res, h.byt, fun x y => by rw [put_getD_far h1]; exact h.al x y, fun x => by rw [put_getD_far h1]; exact h.st x⟩
theorem TR.alloc (h : TR w b off r e1 false false a.tmps W) (hs : 8 < a.tmps.size) : TR w b off r e1 true false (a.put (some 8) (.pointer (some ⟨W.heap.size, 0, none⟩))).tmps (W.alloc (.cells (evA E0) 26)) :=
  ⟨h.bel.alloc h.bel.size _, h.res.alloc _, Reads.alloc h.byt h.bel.size _, fun _ _ => ⟨W.heap.size, put_getD_at hs, h.res.blk.lt, EB.new W rfl⟩, (fun x => by cases x)⟩
theorem TR.store {g : Nat} (h : TR w b off r e1 true false a.tmps W) (d6 : e1.d.length = 6) (ht : a.tmps.getD 8 undef = .pointer (some ⟨g, 0, none⟩)) : TR w b off r e1 true true (a.put none undef).tmps (W.setRow g (evA e1)) := by
  obtain ⟨g', h1, h2, h3⟩ := h.al rfl rfl
  rw [ht] at h1
  injection h1 with h1; injection h1 with h1; injection h1 with h1
  subst h1
  refine ⟨below_setRow h.bel (Nat.le_of_lt h2) _, ⟨h.res.blk.rowFar (Nat.ne_of_lt h2) _, h.res.d6⟩, Reads.below h.byt (below_setRow (Below.refl _ _) (Nat.le_of_lt h2) _), (fun _ x => by cases x), fun _ => ⟨g, ht, h2, ⟨h3.blk.row _, d6⟩⟩⟩
theorem TR.cell (h : TR w b off r e1 pa ps a.tmps W) (k : Nat) (hk : k < r.length) : W.cell? ⟨b, off + k, none⟩ = some (.int .u8 ((vl ((r.drop k).take 1) : Nat) : Int)) := by
  obtain ⟨b', off', he, _, hc⟩ := Bytes.at_ h.byt hk
  injection he with he; injection he with h1 h2
  subst h1 h2
  rw [vl_take1 r k hk]; exact hc
end
/-- what Take fills. -/
structure LR (w : World) (b off : Nat) (r : List UInt8) (g : Nat) (e : Ev) (W : World) : Prop where
  bel : Below w.heap.size w W
  res : EB W w.heap.size E0
  byt : Bytes W w.heap.size (some ⟨b, off, none⟩) r
  lt : w.heap.size < g
  ev : EB W g e
theorem LR.set {w W : World} {b off g : Nat} {r : List UInt8} {e : Ev} (h : LR w b off r g e W) (j : Nat) (hj : j < 6) (x : Nat) {L : List Nat} (hL : e.d.set j x = L) : LR w b off r g { e with d := L } (W.setCell ⟨g, 2 + j, none⟩ (.int .u64 (x : Int))) := by
  subst hL
  refine ⟨h.bel.setCell (p := ⟨g, 2 + j, none⟩) (Nat.le_of_lt h.lt) _, h.res.far (p := ⟨g, 2 + j, none⟩) (Nat.ne_of_lt h.lt) _, Reads.setCell h.byt (p := ⟨g, 2 + j, none⟩) (Nat.le_of_lt h.lt) _, h.lt, ⟨?_, by rw [List.length_set]; exact h.ev.d6⟩⟩
  have := h.ev.blk.set_ (2 + j) (.int .u64 (x : Int))
  rwa [evA_setd h.ev.d6 j hj] at this
theorem LR.next {w W W' : World} {b off g : Nat} {r : List UInt8} {e : Ev} (h : LR w b off r g e W) (hb : Below W.heap.size W W') : LR w b off r g e W' :=
  ⟨h.bel.trans (hb.mono h.bel.size), h.res.after hb, Reads.below h.byt (hb.mono h.bel.size), h.lt, h.ev.after hb⟩
attribute [local go_sem ↓] exec_loadE exec_storeE exec_allocE exec_buildE exec_loadV
set_option maxRecDepth 100000 in
set_option maxHeartbeats 1000000 in
theorem ertake_out (A : Option Addr) (m c : Nat) (z : Int) (hz : z < 0 ∨ (m : Int) < z ∨ (m : Int) - z < 91) (hm : m ≤ maxLen) (w : World) : Calls Try.prog 17 #[.slice A m c, .int .i64 z] w fun x w' => x = .returned (.tuple #[.agg (evA E0), .int .i64 0, .int .i64 (if z < 0 ∨ (m : Int) < z then 1 else 5)]) ∧ Below w.heap.size w w' := by
  unfold maxLen at hm
  have aE := run_allocE
  have bE := run_buildE0
  have sE := run_storeE_new (e := E0) rfl w
  have R0 : EB (w.alloc (.cells (evA E0) 26)) w.heap.size E0 := EB.new w rfl
  have hb := (Below.refl w.heap.size w).alloc (Nat.le_refl _) (.cells (evA E0) 26)
  by_cases h1 : z < 0
  case' pos =>
    rw [if_pos (.inl h1)]
    clear hz
  case' neg =>
    by_cases h2 : (m : Int) < z
    case' pos =>
      rw [if_pos (.inr h2)]
      clear hz
    case' neg =>
      have h3 : (m : Int) - z < 91 := by omega
      rw [if_neg (by omega)]
      clear hz
  all_goals
    go_enter Try.func17, Try.ntmps17
    go_wp2_with fail
    exact bodyPost_ret (retE2 R0 Try.results17 _ rfl) rfl ⟨rfl, hb⟩
set_option maxRecDepth 100000 in
set_option maxHeartbeats 4000000 in
theorem ertake_in (A : Option Addr) (m c : Nat) (bs : List UInt8) (a : Nat) (w : World) (hb : Bytes w w.heap.size A bs) (hm : m = bs.length) (hmc : m ≤ c) (hc : c ≤ maxLen) (ha : a + 91 ≤ m) (X : Value) (hX : Hid (X = if mayE (ofB ((bs.drop a).take 91)) = true then .tuple #[.agg (evA (ofB ((bs.drop a).take 91))), .int .i64 ((a : Int) + 91), .int .i64 0] else .tuple #[.agg (evA E0), .int .i64 0, .int .i64 5])) : Calls Try.prog 17 #[.slice A m c, .int .i64 (a : Int)] w fun x w' => x = .returned X ∧ Below w.heap.size w w' := by
  unfold maxLen at hc
  have hl : ((bs.drop a).take 91).length = 91 := by simp; omega
  have hok := ofB_ok _ hl
  obtain ⟨b, off, rfl, hB, hx⟩ := hb.at_ (k := a) (by omega)
  clear hx
  have hbr : Bytes w w.heap.size (some ⟨b, off + a, none⟩) ((bs.drop a).take 91) := bytes_take (bytes_drop hb a (by omega)) 91 (by simp; omega)
  generalize hr : (bs.drop a).take 91 = r at hbr hl hok hX
  have hadd : (⟨b, off, none⟩ : Addr).add a = ⟨b, off + a, none⟩ := Addr.add_mid b off a
  have aE := run_allocE w
  have h1 : ¬ (a : Int) < 0 := by omega
  have h2 : ¬ (m : Int) < (a : Int) := by omega
  have h3 : ¬ (m : Int) - (a : Int) < 91 := by omega
  have h4 : (a : Int) + 91 ≤ (c : Int) := by omega
  have h5 : a + 91 - a = 91 := by omega
  have h6 : ¬ c - a = 0 := by omega
  have h7 : (m : Int) ≤ 9223372036854775807 := by omega
  have HR1 : Hid (Below w.heap.size w (w.alloc (.cells (evA E0) 26))) := (Below.refl _ _).alloc (Nat.le_refl _) _
  have HR2 : Hid (EB (w.alloc (.cells (evA E0) 26)) w.heap.size E0) := EB.new w rfl
  have HR3 : Hid (Bytes (w.alloc (.cells (evA E0) 26)) w.heap.size (some ⟨b, off + a, none⟩) r) := Reads.alloc hbr (Nat.le_refl _) _
  have OKR := Lib.hid hok
  have LR0 := Lib.hid hl
  have CAP : Hid (91 ≤ c - a ∧ c - a ≤ 1099511627776 ∨ True) := .inr trivial
  clear hm hmc ha hb hbr hl hr hok hB
  go_enter Try.func17, Try.ntmps17
  go_wp2_with fail
  clear h1 h2 h3 h5 h6 hadd aE
  generalize w.alloc (.cells (evA E0) 26) = w1 at HR1 HR2 HR3 ⊢
  generalize off + a = of at HR3 ⊢
  generalize c - a = cc
  have EV := Lib.hid (ofB_eq r)
  have e1' := vl_one (r.drop 0)
  have e3' := vl_one (r.drop 57)
  have e5' := vl_one (r.drop 66)
  obtain ⟨x1, hx⟩ : ∃ x, vl ((r.drop 0).take 1) = x := ⟨_, rfl⟩
  rw [hx] at EV e1'
  have X1 := Lib.hid hx
  clear hx
  obtain ⟨x2, hx⟩ : ∃ x, vl ((r.drop 1).take 8) = x := ⟨_, rfl⟩
  rw [hx] at EV
  have X2 := Lib.hid hx
  clear hx
  obtain ⟨x3, hx⟩ : ∃ x, vl ((r.drop 57).take 1) = x := ⟨_, rfl⟩
  rw [hx] at EV e3'
  have X3 := Lib.hid hx
  clear hx
  obtain ⟨x4, hx⟩ : ∃ x, vl ((r.drop 58).take 8) = x := ⟨_, rfl⟩
  rw [hx] at EV
  have X4 := Lib.hid hx
  clear hx
  obtain ⟨x5, hx⟩ : ∃ x, vl ((r.drop 66).take 1) = x := ⟨_, rfl⟩
  rw [hx] at EV e5'
  have X5 := Lib.hid hx
  clear hx
  obtain ⟨x6, hx⟩ : ∃ x, vl ((r.drop 67).take 8) = x := ⟨_, rfl⟩
  rw [hx] at EV
  have X6 := Lib.hid hx
  clear hx
  obtain ⟨z6, wz⟩ : ∃ z, IntKind.i64.wrap (x6 : Int) = z := ⟨_, rfl⟩
  rw [wz] at EV
  have WZ := Lib.hid wz
  clear wz
  obtain ⟨x7, hx⟩ : ∃ x, vl ((r.drop 75).take 8) = x := ⟨_, rfl⟩
  rw [hx] at EV
  have X7 := Lib.hid hx
  clear hx
  obtain ⟨x8, hx⟩ : ∃ x, vl ((r.drop 83).take 8) = x := ⟨_, rfl⟩
  rw [hx] at EV
  have X8 := Lib.hid hx
  clear hx
  have W1 : Hid (IntKind.i64.wrap (x1 : Int) = (x1 : Int)) := by show _ = _; rw [IntKind.wrap_i64]; omega
  have W5 : Hid (IntKind.i64.wrap (x5 : Int) = (x5 : Int)) := by show _ = _; rw [IntKind.wrap_i64]; omega
  clear e1' e3' e5'
  refine wp_region_cy (fun ℓ t W => TR w b of r ⟨(x1 : Int), x2, Z6, x3, x4, (x5 : Int), z6, x7, x8⟩ (ℓ 23) (ℓ 24) t W) (fun _ _ => True) [IsV (.slice (some ⟨b, of, none⟩) 91 cc), IsV (.pointer (some ⟨b, of + 0, none⟩)), IsV (.int .u8 (x1 : Int)), IsV (.int .i64 (x1 : Int)), IsV (.slice (some ⟨b, of, none⟩) 91 cc), IsV (.int .u64 (x2 : Int)), IsV (.slice (some ⟨b, of, none⟩) 91 cc), IsV (.pointer (some ⟨b, of + 57, none⟩)), IsV (.int .u8 (x3 : Int)), IsV (.slice (some ⟨b, of, none⟩) 91 cc), IsV (.int .u64 (x4 : Int)), IsV (.slice (some ⟨b, of, none⟩) 91 cc), IsV (.pointer (some ⟨b, of + 66, none⟩)), IsV (.int .u8 (x5 : Int)), IsV (.int .i64 (x5 : Int)), IsV (.slice (some ⟨b, of, none⟩) 91 cc), IsV (.int .u64 (x6 : Int)), IsV (.int .i64 z6), IsV (.slice (some ⟨b, of, none⟩) 91 cc), IsV (.int .u64 (x7 : Int)), IsV (.slice (some ⟨b, of, none⟩) 91 cc), IsV (.int .u64 (x8 : Int)), IsV (.agg (evA ⟨(x1 : Int), x2, Z6, x3, x4, (x5 : Int), z6, x7, x8⟩)), fun _ _ => True, fun _ _ => True] ([(7, .slice (some ⟨b, of, none⟩) 91 cc)] : List (Nat × Value)) (⟨rfl, trivial⟩) (n := 75) (by kernel_rfl) rfl (by kernel_rfl) (TR.first HR1.out HR2.out HR3.out) (fun _ => trivial) (StabBy.get ?_) ?_ ?_
  · repeat (first | exact trivial | refine ⟨fun _ _ _ _ h => h, ?_⟩)
  · refine ⟨?_, ⟨?_, ⟨?_, ⟨?_, ⟨?_, ⟨?_, ⟨?_, ⟨?_, ⟨?_, ⟨?_, ⟨?_, ⟨?_, ⟨?_, ⟨?_, ⟨?_, ⟨?_, ⟨?_, ⟨?_, ⟨?_, ⟨?_, ⟨?_, ⟨?_, ⟨?_, ⟨?_, ⟨?_, trivial⟩⟩⟩⟩⟩⟩⟩⟩⟩⟩⟩⟩⟩⟩⟩⟩⟩⟩⟩⟩⟩⟩⟩⟩⟩
    · intro a W ℓ hZ hl hB hS hE hN hD
      obtain ⟨x7, _⟩ := hE
      have e7 := x7 (by kernel_rfl)
      refine plan_free rfl ?_
      have k7 := e7
      refine plan_value ex_move ⟨_, rfl, TR.put hS (by simp), trivial, ?_⟩
      exact e7
    · intro a W ℓ hZ hl hB hS hE hN hD
      have k30 : a.tmps.getD 30 undef = .slice (some ⟨b, of, none⟩) 91 cc := hD 0 30 (by kernel_rfl)
      refine plan_free rfl ?_
      refine plan_value (ex_idxB (k := 0) k30 rfl (by omega) (by omega)) ⟨_, rfl, TR.put hS (by simp), trivial, rfl⟩
    · intro a W ℓ hZ hl hB hS hE hN hD
      have k31 : a.tmps.getD 31 undef = .pointer (some ⟨b, of + 0, none⟩) := hD 1 31 (by kernel_rfl)
      refine plan_free rfl ?_
      have cx := hS.cell 0 (by rw [LR0.out]; omega)
      rw [X1.out] at cx
      refine plan_value (ex_loadB k31 cx) ⟨_, rfl, TR.put hS (by simp), trivial, rfl⟩
    · intro a W ℓ hZ hl hB hS hE hN hD
      have k32 : a.tmps.getD 32 undef = .int .u8 (x1 : Int) := hD 2 32 (by kernel_rfl)
      refine plan_free rfl ?_
      have wx := W1.out
      refine plan_value (v := .int .i64 (x1 : Int)) (w' := W) (by go_simp) ⟨_, rfl, TR.put hS (by simp), trivial, rfl⟩
    · intro a W ℓ hZ hl hB hS hE hN hD
      obtain ⟨x7, _⟩ := hE
      have e7 := x7 (by kernel_rfl)
      refine plan_free rfl ?_
      have k7 := e7
      refine plan_value ex_move ⟨_, rfl, TR.put hS (by simp), trivial, ?_⟩
      exact e7
    · intro a W ℓ hZ hl hB hS hE hN hD
      have k34 : a.tmps.getD 34 undef = .slice (some ⟨b, of, none⟩) 91 cc := hD 4 34 (by kernel_rfl)
      refine plan_free rfl ?_
      refine plan_call (f := 56) (args := #[a.tmps.getD 34 undef, .int .i64 1]) (by kernel_rfl) ?_
      rw [k34]
      refine (number_z _ _ r _ 1 x2 W (hS.byt.more hS.bel.size) LR0.out rfl (by omega) X2.out).mono ?_
      rintro _ W2 ⟨rfl, rfl⟩
      exact ⟨_, rfl, _, rfl, TR.put hS (by simp), trivial, rfl⟩
    · intro a W ℓ hZ hl hB hS hE hN hD
      obtain ⟨x7, _⟩ := hE
      have e7 := x7 (by kernel_rfl)
      refine plan_free rfl ?_
      have k7 := e7
      refine plan_value ex_move ⟨_, rfl, TR.put hS (by simp), trivial, ?_⟩
      exact e7
    · intro a W ℓ hZ hl hB hS hE hN hD
      have k36 : a.tmps.getD 36 undef = .slice (some ⟨b, of, none⟩) 91 cc := hD 6 36 (by kernel_rfl)
      refine plan_free rfl ?_
      refine plan_value (ex_idxB (k := 57) k36 rfl (by omega) (by omega)) ⟨_, rfl, TR.put hS (by simp), trivial, rfl⟩
    · intro a W ℓ hZ hl hB hS hE hN hD
      have k37 : a.tmps.getD 37 undef = .pointer (some ⟨b, of + 57, none⟩) := hD 7 37 (by kernel_rfl)
      refine plan_free rfl ?_
      have cx := hS.cell 57 (by rw [LR0.out]; omega)
      rw [X3.out] at cx
      refine plan_value (ex_loadB k37 cx) ⟨_, rfl, TR.put hS (by simp), trivial, rfl⟩
    · intro a W ℓ hZ hl hB hS hE hN hD
      obtain ⟨x7, _⟩ := hE
      have e7 := x7 (by kernel_rfl)
      refine plan_free rfl ?_
      have k7 := e7
      refine plan_value ex_move ⟨_, rfl, TR.put hS (by simp), trivial, ?_⟩
      exact e7
    · intro a W ℓ hZ hl hB hS hE hN hD
      have k39 : a.tmps.getD 39 undef = .slice (some ⟨b, of, none⟩) 91 cc := hD 9 39 (by kernel_rfl)
      refine plan_free rfl ?_
      refine plan_call (f := 56) (args := #[a.tmps.getD 39 undef, .int .i64 58]) (by kernel_rfl) ?_
      rw [k39]
      refine (number_z _ _ r _ 58 x4 W (hS.byt.more hS.bel.size) LR0.out rfl (by omega) X4.out).mono ?_
      rintro _ W2 ⟨rfl, rfl⟩
      exact ⟨_, rfl, _, rfl, TR.put hS (by simp), trivial, rfl⟩
    · intro a W ℓ hZ hl hB hS hE hN hD
      obtain ⟨x7, _⟩ := hE
      have e7 := x7 (by kernel_rfl)
      refine plan_free rfl ?_
      have k7 := e7
      refine plan_value ex_move ⟨_, rfl, TR.put hS (by simp), trivial, ?_⟩
      exact e7
    · intro a W ℓ hZ hl hB hS hE hN hD
      have k41 : a.tmps.getD 41 undef = .slice (some ⟨b, of, none⟩) 91 cc := hD 11 41 (by kernel_rfl)
      refine plan_free rfl ?_
      refine plan_value (ex_idxB (k := 66) k41 rfl (by omega) (by omega)) ⟨_, rfl, TR.put hS (by simp), trivial, rfl⟩
    · intro a W ℓ hZ hl hB hS hE hN hD
      have k42 : a.tmps.getD 42 undef = .pointer (some ⟨b, of + 66, none⟩) := hD 12 42 (by kernel_rfl)
      refine plan_free rfl ?_
      have cx := hS.cell 66 (by rw [LR0.out]; omega)
      rw [X5.out] at cx
      refine plan_value (ex_loadB k42 cx) ⟨_, rfl, TR.put hS (by simp), trivial, rfl⟩
    · intro a W ℓ hZ hl hB hS hE hN hD
      have k43 : a.tmps.getD 43 undef = .int .u8 (x5 : Int) := hD 13 43 (by kernel_rfl)
      refine plan_free rfl ?_
      have wx := W5.out
      refine plan_value (v := .int .i64 (x5 : Int)) (w' := W) (by go_simp) ⟨_, rfl, TR.put hS (by simp), trivial, rfl⟩
    · intro a W ℓ hZ hl hB hS hE hN hD
      obtain ⟨x7, _⟩ := hE
      have e7 := x7 (by kernel_rfl)
      refine plan_free rfl ?_
      have k7 := e7
      refine plan_value ex_move ⟨_, rfl, TR.put hS (by simp), trivial, ?_⟩
      exact e7
    · intro a W ℓ hZ hl hB hS hE hN hD
      have k45 : a.tmps.getD 45 undef = .slice (some ⟨b, of, none⟩) 91 cc := hD 15 45 (by kernel_rfl)
      refine plan_free rfl ?_
      refine plan_call (f := 56) (args := #[a.tmps.getD 45 undef, .int .i64 67]) (by kernel_rfl) ?_
      rw [k45]
      refine (number_z _ _ r _ 67 x6 W (hS.byt.more hS.bel.size) LR0.out rfl (by omega) X6.out).mono ?_
      rintro _ W2 ⟨rfl, rfl⟩
      exact ⟨_, rfl, _, rfl, TR.put hS (by simp), trivial, rfl⟩
    · intro a W ℓ hZ hl hB hS hE hN hD
      have k46 : a.tmps.getD 46 undef = .int .u64 (x6 : Int) := hD 16 46 (by kernel_rfl)
      refine plan_free rfl ?_
      have wx := WZ.out
      refine plan_value (v := .int .i64 z6) (w' := W) (by go_simp) ⟨_, rfl, TR.put hS (by simp), trivial, rfl⟩
    · intro a W ℓ hZ hl hB hS hE hN hD
      obtain ⟨x7, _⟩ := hE
      have e7 := x7 (by kernel_rfl)
      refine plan_free rfl ?_
      have k7 := e7
      refine plan_value ex_move ⟨_, rfl, TR.put hS (by simp), trivial, ?_⟩
      exact e7
    · intro a W ℓ hZ hl hB hS hE hN hD
      have k48 : a.tmps.getD 48 undef = .slice (some ⟨b, of, none⟩) 91 cc := hD 18 48 (by kernel_rfl)
      refine plan_free rfl ?_
      refine plan_call (f := 56) (args := #[a.tmps.getD 48 undef, .int .i64 75]) (by kernel_rfl) ?_
      rw [k48]
      refine (number_z _ _ r _ 75 x7 W (hS.byt.more hS.bel.size) LR0.out rfl (by omega) X7.out).mono ?_
      rintro _ W2 ⟨rfl, rfl⟩
      exact ⟨_, rfl, _, rfl, TR.put hS (by simp), trivial, rfl⟩
    · intro a W ℓ hZ hl hB hS hE hN hD
      obtain ⟨x7, _⟩ := hE
      have e7 := x7 (by kernel_rfl)
      refine plan_free rfl ?_
      have k7 := e7
      refine plan_value ex_move ⟨_, rfl, TR.put hS (by simp), trivial, ?_⟩
      exact e7
    · intro a W ℓ hZ hl hB hS hE hN hD
      have k50 : a.tmps.getD 50 undef = .slice (some ⟨b, of, none⟩) 91 cc := hD 20 50 (by kernel_rfl)
      refine plan_free rfl ?_
      refine plan_call (f := 56) (args := #[a.tmps.getD 50 undef, .int .i64 83]) (by kernel_rfl) ?_
      rw [k50]
      refine (number_z _ _ r _ 83 x8 W (hS.byt.more hS.bel.size) LR0.out rfl (by omega) X8.out).mono ?_
      rintro _ W2 ⟨rfl, rfl⟩
      exact ⟨_, rfl, _, rfl, TR.put hS (by simp), trivial, rfl⟩
    · intro a W ℓ hZ hl hB hS hE hN hD
      have k33 : a.tmps.getD 33 undef = .int .i64 (x1 : Int) := hD 3 33 (by kernel_rfl)
      have k35 : a.tmps.getD 35 undef = .int .u64 (x2 : Int) := hD 5 35 (by kernel_rfl)
      have k38 : a.tmps.getD 38 undef = .int .u8 (x3 : Int) := hD 8 38 (by kernel_rfl)
      have k40 : a.tmps.getD 40 undef = .int .u64 (x4 : Int) := hD 10 40 (by kernel_rfl)
      have k44 : a.tmps.getD 44 undef = .int .i64 (x5 : Int) := hD 14 44 (by kernel_rfl)
      have k47 : a.tmps.getD 47 undef = .int .i64 z6 := hD 17 47 (by kernel_rfl)
      have k49 : a.tmps.getD 49 undef = .int .u64 (x7 : Int) := hD 19 49 (by kernel_rfl)
      have k51 : a.tmps.getD 51 undef = .int .u64 (x8 : Int) := hD 21 51 (by kernel_rfl)
      refine plan_free rfl ?_
      refine plan_value (ex_build8 k33 k35 k38 k40 k44 k47 k49 k51) ⟨_, rfl, TR.put hS (by simp), trivial, rfl⟩
    · intro a W ℓ hZ hl hB hS hE hN hD
      refine plan_free rfl ?_
      have h24 := hB 24 (by kernel_rfl)
      have h0 : TR w b of r ⟨(x1 : Int), x2, Z6, x3, x4, (x5 : Int), z6, x7, x8⟩ false false a.tmps W := by
        have h := hS
        simp only [hl, h24] at h
        exact h
      refine plan_value ex_allocE ⟨_, rfl, ?_, trivial, trivial⟩
      show TR w b of r ⟨(x1 : Int), x2, Z6, x3, x4, (x5 : Int), z6, x7, x8⟩ true (ℓ 24) _ _
      rw [h24]
      exact TR.alloc h0 (by rw [hZ]; decide)
    · intro a W ℓ hZ hl hB hS hE hN hD
      have k52 : a.tmps.getD 52 undef = .agg (evA ⟨(x1 : Int), x2, Z6, x3, x4, (x5 : Int), z6, x7, x8⟩) := hD 22 52 (by kernel_rfl)
      refine plan_free rfl ?_
      have h23 := hN 23 8 (by kernel_rfl)
      have h0 : TR w b of r ⟨(x1 : Int), x2, Z6, x3, x4, (x5 : Int), z6, x7, x8⟩ true false a.tmps W := by
        have h := hS
        simp only [hl, h23] at h
        exact h
      obtain ⟨g0, hg0, _, hE0⟩ := h0.al rfl rfl
      refine plan_unit (ex_storeE hg0 k52 rfl hE0) ⟨_, rfl, ?_, trivial, trivial⟩
      show TR w b of r ⟨(x1 : Int), x2, Z6, x3, x4, (x5 : Int), z6, x7, x8⟩ (ℓ 23) true _ _
      rw [h23]
      exact TR.store h0 rfl hg0
  · intro f w9 ℓ hl V hE
    clear hE
    obtain ⟨g, hg, hgw, hE1⟩ := V.st (hl 24 (by simp))
    have L0 : Hid (LR w b of r g ⟨(x1 : Int), x2, mixD (ofV ((r.drop 9).take 48) 6) 0, x3, x4, (x5 : Int), z6, x7, x8⟩ w9) := ⟨V.bel, V.res, V.byt, hgw, hE1⟩
    have f8 : f 8 = .pointer (some ⟨g, 0, none⟩) := by rw [← hg]; kernel_rfl
    clear V hl hgw hE1 hg
    simp only [setAll, List.setIfInBounds_toArray, List.set_cons_zero, List.set_cons_succ]
    rw [f8]; clear f8
    go_wp2_with fail
    have D6 := Lib.hid (ofV_len 6 ((r.drop 9).take 48))
    have DAT : Hid (∀ j, j < 6 → vl ((r.drop (9 + 8 * j)).take 8) = (ofV ((r.drop 9).take 48) 6).getD j 0) := fun j hj => ofV_at r j hj
    generalize ofV ((r.drop 9).take 48) 6 = D at *
    go_loopw [9] (fun i wr => ∃ j : Nat, j ≤ 6 ∧ i = .int .i64 (j : Int) ∧ Hid (LR w b of r g ⟨(x1 : Int), x2, mixD D j, x3, x4, (x5 : Int), z6, x7, x8⟩ wr)) (fun i _ => 6 - (intOf i).toNat)
    case atStart => exact ⟨0, by omega, rfl, L0⟩
    case round =>
      obtain ⟨j, hj, rfl, HL⟩ := hrel
      by_cases hlt : j < 6
      · obtain ⟨y, hy⟩ : ∃ y, y = D.getD j 0 := ⟨_, rfl⟩
        have hx := DAT.out j hlt
        rw [← hy] at hx
        have HX := Lib.hid hx
        have ML := mixD_len D6.out j hj
        have cc2 := HL.out.ev.d j (by rw [ML]; exact hlt)
        have ff := HL.out.ev.blk.frozen (2 + j)
        have SET := Lib.hid (HL.out.set (L := mixD D (j + 1)) j hlt y (by rw [hy]; exact mixD_set D6.out j hlt))
        have hj6 : (j : Int) < 6 := by omega
        clear hx hy
        go_wp2_with fail
        refine (number_z _ _ r _ (9 + 8 * j) y _ (HL.out.byt.more HL.out.bel.size) LR0.out (by omega) (by omega) HX.out).mono ?_
        rintro _ w' ⟨rfl, rfl⟩
        go_wp2_with fail
        go_roundw
        case rel => exact ⟨j + 1, by omega, by go_num, SET⟩
        case measure => simp [intOf]; omega
      · obtain rfl : j = 6 := by omega
        have HL2 : Hid (LR w b of r g ⟨(x1 : Int), x2, D, x3, x4, (x5 : Int), z6, x7, x8⟩ wr) := by have := HL; rwa [mixD_6 D6.out] at this
        rw [← EV.out] at HL2
        obtain ⟨e, he⟩ : ∃ e, ofB r = e := ⟨_, rfl⟩
        have BACK : Hid (mayE e = true → evB e = r) := fun h => by rw [← he] at h ⊢; exact evB_ofB r LR0.out h
        rw [he] at HL2 OKR hX
        clear EV he HL
        have ES : Hid (Eb w wr [(w.heap.size, E0), (g, e)] (some ⟨b, of, none⟩) r) := by
          refine ⟨⟨fun p hp => ?_, HL2.out.bel⟩, HL2.out.byt.more HL2.out.bel.size⟩
          rcases List.mem_cons.1 hp with rfl | hp
          · exact HL2.out.res
          · rw [List.mem_singleton.1 hp]; exact HL2.out.ev
        have HGW := Lib.hid HL2.out.lt
        clear HL2
        cases hm : mayE e
        case false =>
          have PU := Lib.hid (rput_no e OKR.out hm)
          rw [hm, if_neg (by simp)] at hX
          have NE : Hid (([] : List UInt8) ≠ r) := fun h => by have := LR0.out; rw [← h] at this; simp at this
          have qs := str_ne NE.out
          clear hm
          go_wp2_with fail
          refine wp_region_plan (fun W => Eb w W [(w.heap.size, E0), (g, e)] (some ⟨b, of, none⟩) r) Grows [IsV (.agg (evA e)), SlB ([]), IsV (.string (strB ([]))), IsV (.slice (some ⟨b, of, none⟩) 91 cc), IsV (.string (strB (r))), IsV (.bool true)] ([(7, .slice (some ⟨b, of, none⟩) 91 cc), (8, .pointer (some ⟨g, 0, none⟩))] : List (Nat × Value)) (⟨rfl, rfl, trivial⟩) (n := 75) (by kernel_rfl) rfl (by kernel_rfl) ES.out.drew Grows.refl (StabAll.get ?_) ?_ ?_
          · repeat (first | exact trivial | refine ⟨stab_c _, ?_⟩ | refine ⟨stab_two _ _, ?_⟩ | refine ⟨stab_slb _, ?_⟩ | refine ⟨fun _ _ _ _ _ _ _ => trivial, ?_⟩)
          · refine ⟨?_, ⟨?_, ⟨?_, ⟨?_, ⟨?_, ⟨?_, trivial⟩⟩⟩⟩⟩⟩
            · intro a W hS hE hD
              obtain ⟨_, x8, _⟩ := hE
              have e8 := x8 (by kernel_rfl)
              refine plan_free rfl ?_
              have k8 := e8
              refine plan_value (ex_loadE k8 (hS.es.nth 1 rfl).d6 (hS.es.nth 1 rfl).rg) ⟨_, rfl, hS, Grows.refl _, rfl⟩
            · intro a W hS hE hD
              have k65 : a.tmps.getD 65 undef = .agg (evA e) := hD 0 65 (by kernel_rfl)
              refine plan_free rfl ?_
              refine plan_call (f := 24) (args := #[a.tmps.getD 65 undef]) (by kernel_rfl) ?_
              rw [k65]
              refine (PU.out W).mono ?_
              rintro _ W2 ⟨rfl, hb⟩
              exact ⟨_, rfl, _, rfl, hS.next hb, hb, ⟨none, 0, 0, rfl, rfl, Reads.none_⟩⟩
            · intro a W hS hE hD
              obtain ⟨A66, n66, c66, k66, l66, b66⟩ : SlB ([]) (a.tmps.getD 66 undef) W := hD 1 66 (by kernel_rfl)
              refine plan_free rfl ?_
              refine plan_value (ex_str k66 l66 b66) ⟨_, rfl, hS, Grows.refl _, rfl⟩
            · intro a W hS hE hD
              obtain ⟨x7, _, _⟩ := hE
              have e7 := x7 (by kernel_rfl)
              refine plan_free rfl ?_
              have k7 := e7
              refine plan_value ex_move ⟨_, rfl, hS, Grows.refl _, ?_⟩
              exact e7
            · intro a W hS hE hD
              have k68 : a.tmps.getD 68 undef = .slice (some ⟨b, of, none⟩) 91 cc := hD 3 68 (by kernel_rfl)
              refine plan_free rfl ?_
              refine plan_value (ex_str k68 LR0.out.symm (hS.b)) ⟨_, rfl, hS, Grows.refl _, rfl⟩
            · intro a W hS hE hD
              have k67 : a.tmps.getD 67 undef = .string (strB ([])) := hD 2 67 (by kernel_rfl)
              have k69 : a.tmps.getD 69 undef = .string (strB (r)) := hD 4 69 (by kernel_rfl)
              refine plan_free rfl ?_
              refine plan_value (v := .bool true) (w' := W) (by go_simp) ⟨_, rfl, hS, Grows.refl _, rfl⟩
          · intro f w11 V9 hE
            have f70 : f 70 = .bool true := Ends.get hE 5 _ rfl 70 rfl
            clear hE
            simp only [setAll, List.setIfInBounds_toArray, List.set_cons_zero, List.set_cons_succ]
            rw [f70]; clear f70
            have bE := run_buildE0
            have sE := run_storeE (e := E0) rfl (V9.es.nth 0 rfl).blk rfl
            go_wp2_with fail
            exact bodyPost_ret (retE2 (g := w.heap.size) ⟨(V9.es.nth 0 rfl).blk.row (evA E0), rfl⟩ Try.results17 _ rfl) rfl ⟨by rw [hX.out]; rfl, below_setRow V9.es.bel (Nat.le_refl _) _⟩
        case true =>
          have PU : Hid (∀ W, Calls Try.prog 24 #[.agg (evA e)] W fun x w' => ∃ A n c, x = .returned (.slice A n c) ∧ n = r.length ∧ OwnB w' W.heap.size 5 (.slice A n c) r ∧ Below W.heap.size W w') := by
            intro W; have := rput_yes e OKR.out hm W; rwa [BACK.out hm] at this
          rw [hm, if_pos rfl] at hX
          clear hm
          go_wp2_with fail
          refine wp_region_plan (fun W => Eb w W [(w.heap.size, E0), (g, e)] (some ⟨b, of, none⟩) r) Grows [IsV (.agg (evA e)), SlB (r), IsV (.string (strB (r))), IsV (.slice (some ⟨b, of, none⟩) 91 cc), IsV (.string (strB (r))), IsV (.bool false)] ([(7, .slice (some ⟨b, of, none⟩) 91 cc), (8, .pointer (some ⟨g, 0, none⟩))] : List (Nat × Value)) (⟨rfl, rfl, trivial⟩) (n := 75) (by kernel_rfl) rfl (by kernel_rfl) ES.out.drew Grows.refl (StabAll.get ?_) ?_ ?_
          · repeat (first | exact trivial | refine ⟨stab_c _, ?_⟩ | refine ⟨stab_two _ _, ?_⟩ | refine ⟨stab_slb _, ?_⟩ | refine ⟨fun _ _ _ _ _ _ _ => trivial, ?_⟩)
          · refine ⟨?_, ⟨?_, ⟨?_, ⟨?_, ⟨?_, ⟨?_, trivial⟩⟩⟩⟩⟩⟩
            · intro a W hS hE hD
              obtain ⟨_, x8, _⟩ := hE
              have e8 := x8 (by kernel_rfl)
              refine plan_free rfl ?_
              have k8 := e8
              refine plan_value (ex_loadE k8 (hS.es.nth 1 rfl).d6 (hS.es.nth 1 rfl).rg) ⟨_, rfl, hS, Grows.refl _, rfl⟩
            · intro a W hS hE hD
              have k65 : a.tmps.getD 65 undef = .agg (evA e) := hD 0 65 (by kernel_rfl)
              refine plan_free rfl ?_
              refine plan_call (f := 24) (args := #[a.tmps.getD 65 undef]) (by kernel_rfl) ?_
              rw [k65]
              refine (PU.out W).mono ?_
              rintro e W2 ⟨A, n, c, rfl, hl, ho, hb⟩
              exact ⟨_, rfl, _, rfl, hS.next hb, hb, ⟨A, n, c, rfl, hl, own_bytes ho⟩⟩
            · intro a W hS hE hD
              obtain ⟨A66, n66, c66, k66, l66, b66⟩ : SlB (r) (a.tmps.getD 66 undef) W := hD 1 66 (by kernel_rfl)
              refine plan_free rfl ?_
              refine plan_value (ex_str k66 l66 b66) ⟨_, rfl, hS, Grows.refl _, rfl⟩
            · intro a W hS hE hD
              obtain ⟨x7, _, _⟩ := hE
              have e7 := x7 (by kernel_rfl)
              refine plan_free rfl ?_
              have k7 := e7
              refine plan_value ex_move ⟨_, rfl, hS, Grows.refl _, ?_⟩
              exact e7
            · intro a W hS hE hD
              have k68 : a.tmps.getD 68 undef = .slice (some ⟨b, of, none⟩) 91 cc := hD 3 68 (by kernel_rfl)
              refine plan_free rfl ?_
              refine plan_value (ex_str k68 LR0.out.symm (hS.b)) ⟨_, rfl, hS, Grows.refl _, rfl⟩
            · intro a W hS hE hD
              have k67 : a.tmps.getD 67 undef = .string (strB (r)) := hD 2 67 (by kernel_rfl)
              have k69 : a.tmps.getD 69 undef = .string (strB (r)) := hD 4 69 (by kernel_rfl)
              refine plan_free rfl ?_
              refine plan_value (v := .bool false) (w' := W) (by go_simp) ⟨_, rfl, hS, Grows.refl _, rfl⟩
          · intro f w11 V9 hE
            have f70 : f 70 = .bool false := Ends.get hE 5 _ rfl 70 rfl
            clear hE
            simp only [setAll, List.setIfInBounds_toArray, List.set_cons_zero, List.set_cons_succ]
            rw [f70]; clear f70
            have sE := run_storeE OKR.out.d6 (V9.es.nth 0 rfl).blk rfl
            have le2 := (V9.es.nth 1 rfl).load
            go_wp2_with fail
            exact bodyPost_ret (retE2 (g := w.heap.size) ⟨(V9.es.nth 0 rfl).blk.row _, OKR.out.d6⟩ Try.results17 _ rfl) rfl ⟨by rw [hX.out]; rfl, below_setRow V9.es.bel (Nat.le_refl _) _⟩
theorem ertake_any (A : Option Addr) (m c : Nat) (bs : List UInt8) (z : Int) (w : World) (hb : Bytes w w.heap.size A bs) (hm : m = bs.length) (hmc : m ≤ c) (hc : c ≤ maxLen) : Calls Try.prog 17 #[.slice A m c, .int .i64 z] w fun x w' =>
    x = .returned (.tuple #[.agg (evA (takeE bs z).1), .int .i64 (takeE bs z).2.1, .int .i64 (takeE bs z).2.2]) ∧ Below w.heap.size w w' := by
  unfold takeE
  by_cases h1 : z < 0 ∨ (bs.length : Int) < z
  · rw [if_pos h1]
    have := ertake_out A m c z (by rw [hm]; omega) (by omega) w
    rw [if_pos (by rw [hm]; exact h1)] at this
    exact this
  by_cases h2 : (bs.length : Int) - z < 91
  · rw [if_neg h1, if_pos h2]
    have := ertake_out A m c z (by rw [hm]; omega) (by omega) w
    rw [if_neg (by rw [hm]; exact h1)] at this
    exact this
  · rw [if_neg h1, if_neg h2]
    obtain ⟨a, rfl⟩ : ∃ a : Nat, z = (a : Int) := ⟨z.toNat, by omega⟩
    have := ertake_in A m c bs a w hb hm hmc hc (by omega) _ (Lib.hid rfl)
    rw [show ((a : Int)).toNat = a by omega]
    split at this
    · rename_i hy; rw [if_pos hy]; exact this
    · rename_i hy; rw [if_neg hy]; exact this
end Go.Proofs.Ytjihbjjekhncaaa
