import Derived.Test.YtjihbjjekhncaaaEvRd
import Derived.Test.YtjihbjjekhncaaaEvRa
import Derived.Test.YtjihbjjekhncaaaEvC
import Derived.Test.YtjihbjjekhncaaaEvBk
namespace Go.Proofs.Ytjihbjjekhncaaa
open Go.RowKit
/-! bytes that are put one behind the other, while others are made, in whatever order. -/
theorem own_lit (w : World) (base : Nat) (hb : base ≤ w.heap.size) (e : TypeId) (y : UInt8) : OwnB (w.alloc (.cells #[.int .u8 (y.toNat : Int)] e)) base e (.slice (some ⟨w.heap.size, 0, none⟩) 1 1) [y] := by
  refine ⟨rfl, .inr ⟨w.heap.size, 1, _, rfl, hb, heap_alloc_new w _, Nat.le_refl _, by decide, rfl, rfl⟩⟩
structure S3 (w : World) (e : Ev) (s1 s2 s3 c1 c2 c3 : Nat) (cv0 : Value) (cb0 ys1 ys2 ys3 : List UInt8) (p1 p2 p3 a1 a2 a3 : Bool) (t : Array Value) (W : World) : Prop where
  pb : PB w W e
  le : w.heap.size + 1 ≤ W.heap.size
  ch0 : a1 = false → OwnB W (w.heap.size + 1) 5 cv0 cb0
  ch1 : a1 = true → a2 = false → OwnB W (w.heap.size + 1) 5 (t.getD c1 undef) (cb0 ++ ys1)
  ch2 : a2 = true → a3 = false → OwnB W (w.heap.size + 1) 5 (t.getD c2 undef) ((cb0 ++ ys1) ++ ys2)
  ch3 : a3 = true → OwnB W (w.heap.size + 1) 5 (t.getD c3 undef) (((cb0 ++ ys1) ++ ys2) ++ ys3)
  pd1 : p1 = true → a1 = false → OwnB W (w.heap.size + 1) 5 (t.getD s1 undef) ys1 ∧ Apart cv0 (t.getD s1 undef)
  pd2 : p2 = true → a2 = false → OwnB W (w.heap.size + 1) 5 (t.getD s2 undef) ys2 ∧ (a1 = false → Apart cv0 (t.getD s2 undef)) ∧ (a1 = true → Apart (t.getD c1 undef) (t.getD s2 undef))
  pd3 : p3 = true → a3 = false → OwnB W (w.heap.size + 1) 5 (t.getD s3 undef) ys3 ∧ (a1 = false → Apart cv0 (t.getD s3 undef)) ∧ (a1 = true → a2 = false → Apart (t.getD c1 undef) (t.getD s3 undef)) ∧ (a2 = true → Apart (t.getD c2 undef) (t.getD s3 undef))
  m1 : a2 = true → a1 = true
  m2 : a3 = true → a2 = true
theorem apart_new {W W' : World} {base : Nat} {e : TypeId} {v u : Value} {xs ys : List UInt8} (h : OwnB W base e v xs) (h' : OwnB W' W.heap.size e u ys) : Apart v u := fun k hk hu => by
  have h1 := (World.ownsRow.lt h k hk).2
  have h2 := (World.ownsRow.lt h' k hu).1
  omega
theorem pb_grown {w W W' : World} {e : Ev} {row : Option Nat} (h : PB w W e) (hg : W.grownBy W' row) (hr : ∀ k, row = some k → w.heap.size + 1 ≤ k) (hs : w.heap.size + 1 ≤ W.heap.size) : PB w W' e := by
  have hb : Below (w.heap.size + 1) W W' := (Below.refl _ _).grown hg hs hr
  exact ⟨⟨h.src.blk.below hb (Nat.lt_succ_self _), h.src.d6⟩, h.bel.trans (hb.mono (Nat.le_succ _))⟩
section
variable {w W W' : World} {e : Ev} {s1 s2 s3 c1 c2 c3 : Nat} {cv0 : Value} {cb0 ys1 ys2 ys3 : List UInt8} {p1 p2 p3 a1 a2 a3 : Bool} {a : Act}
theorem S3.put {dst : Option Tmp} {v : Value} (h : S3 w e s1 s2 s3 c1 c2 c3 cv0 cb0 ys1 ys2 ys3 p1 p2 p3 a1 a2 a3 a.tmps W) (h1 : dst ≠ some s1) (h2 : dst ≠ some s2) (h3 : dst ≠ some s3) (h4 : dst ≠ some c1) (h5 : dst ≠ some c2) (h6 : dst ≠ some c3) :
    S3 w e s1 s2 s3 c1 c2 c3 cv0 cb0 ys1 ys2 ys3 p1 p2 p3 a1 a2 a3 (a.put dst v).tmps W := by
  obtain ⟨q0, q1, q2, q3, q4, q5, q6, q7, q8, q9, q10⟩ := h
  refine ⟨q0, q1, q2, ?_, ?_, ?_, ?_, ?_, ?_, q9, q10⟩ <;> simp only [put_getD_far h1, put_getD_far h2, put_getD_far h3, put_getD_far h4, put_getD_far h5, put_getD_far h6] <;> assumption
theorem S3.call1 {v : Value} (h : S3 w e s1 s2 s3 c1 c2 c3 cv0 cb0 ys1 ys2 ys3 false p2 p3 a1 a2 a3 a.tmps W) (hb : Below W.heap.size W W') (ho : OwnB W' W.heap.size 5 v ys1) (hz : s1 < a.tmps.size) (ha : a1 = false) (ha2 : a2 = false) (ha3 : a3 = false)
    (n1 : s1 ≠ s2) (n2 : s1 ≠ s3) (n3 : s1 ≠ c1) (n4 : s1 ≠ c2) (n5 : s1 ≠ c3) : S3 w e s1 s2 s3 c1 c2 c3 cv0 cb0 ys1 ys2 ys3 true p2 p3 a1 a2 a3 (a.put (some s1) v).tmps W' := by
  subst ha ha2 ha3
  obtain ⟨q0, q1, q2, q3, q4, q5, q6, q7, q8, q9, q10⟩ := h
  refine ⟨q0.next hb, Nat.le_trans q1 hb.size, fun x => own_below (q2 x) hb, (fun x => by cases x), (fun x => by cases x), (fun x => by cases x), fun _ _ => ?_, fun x y => ?_, fun x y => ?_, q9, q10⟩
  · rw [put_getD_at hz]; exact ⟨own_base ho q1, apart_new (q2 rfl) ho⟩
  · rw [put_getD_far (by simpa using n1)]
    obtain ⟨r1, r2, _⟩ := q7 x y
    exact ⟨own_below r1 hb, r2, (fun z => by cases z)⟩
  · rw [put_getD_far (by simpa using n2)]
    obtain ⟨r1, r2, _, _⟩ := q8 x y
    exact ⟨own_below r1 hb, r2, (fun z => by cases z), (fun z => by cases z)⟩
theorem S3.call2 {v : Value} (h : S3 w e s1 s2 s3 c1 c2 c3 cv0 cb0 ys1 ys2 ys3 p1 false p3 a1 a2 a3 a.tmps W) (hb : Below W.heap.size W W') (ho : OwnB W' W.heap.size 5 v ys2) (hz : s2 < a.tmps.size) (ha2 : a2 = false) (ha3 : a3 = false)
    (n1 : s2 ≠ s1) (n2 : s2 ≠ s3) (n3 : s2 ≠ c1) (n4 : s2 ≠ c2) (n5 : s2 ≠ c3) : S3 w e s1 s2 s3 c1 c2 c3 cv0 cb0 ys1 ys2 ys3 p1 true p3 a1 a2 a3 (a.put (some s2) v).tmps W' := by
  subst ha2 ha3
  obtain ⟨q0, q1, q2, q3, q4, q5, q6, q7, q8, q9, q10⟩ := h
  refine ⟨q0.next hb, Nat.le_trans q1 hb.size, fun x => own_below (q2 x) hb, fun x y => ?_, (fun x => by cases x), (fun x => by cases x), fun x y => ?_, fun _ _ => ?_, fun x y => ?_, q9, q10⟩
  · rw [put_getD_far (by simpa using n3)]; exact own_below (q3 x y) hb
  · rw [put_getD_far (by simpa using n1)]
    obtain ⟨r1, r2⟩ := q6 x y
    exact ⟨own_below r1 hb, r2⟩
  · rw [put_getD_at hz, put_getD_far (by simpa using n3)]; exact ⟨own_base ho q1, fun x => apart_new (q2 x) ho, fun x => apart_new (q3 x rfl) ho⟩
  · rw [put_getD_far (by simpa using n2), put_getD_far (by simpa using n3)]
    obtain ⟨r1, r2, r3, _⟩ := q8 x y
    exact ⟨own_below r1 hb, r2, r3, (fun z => by cases z)⟩
theorem S3.call3 {v : Value} (h : S3 w e s1 s2 s3 c1 c2 c3 cv0 cb0 ys1 ys2 ys3 p1 p2 false a1 a2 a3 a.tmps W) (hb : Below W.heap.size W W') (ho : OwnB W' W.heap.size 5 v ys3) (hz : s3 < a.tmps.size) (ha3 : a3 = false)
    (n1 : s3 ≠ s1) (n2 : s3 ≠ s2) (n3 : s3 ≠ c1) (n4 : s3 ≠ c2) (n5 : s3 ≠ c3) : S3 w e s1 s2 s3 c1 c2 c3 cv0 cb0 ys1 ys2 ys3 p1 p2 true a1 a2 a3 (a.put (some s3) v).tmps W' := by
  subst ha3
  obtain ⟨q0, q1, q2, q3, q4, q5, q6, q7, q8, q9, q10⟩ := h
  refine ⟨q0.next hb, Nat.le_trans q1 hb.size, fun x => own_below (q2 x) hb, fun x y => ?_, fun x y => ?_, (fun x => by cases x), fun x y => ?_, fun x y => ?_, fun _ _ => ?_, q9, q10⟩
  · rw [put_getD_far (by simpa using n3)]; exact own_below (q3 x y) hb
  · rw [put_getD_far (by simpa using n4)]; exact own_below (q4 x y) hb
  · rw [put_getD_far (by simpa using n1)]
    obtain ⟨r1, r2⟩ := q6 x y
    exact ⟨own_below r1 hb, r2⟩
  · rw [put_getD_far (by simpa using n2), put_getD_far (by simpa using n3)]
    obtain ⟨r1, r2, r3⟩ := q7 x y
    exact ⟨own_below r1 hb, r2, r3⟩
  · rw [put_getD_at hz, put_getD_far (by simpa using n3), put_getD_far (by simpa using n4)]; exact ⟨own_base ho q1, fun x => apart_new (q2 x) ho, fun x y => apart_new (q3 x y) ho, fun x => apart_new (q4 x rfl) ho⟩
theorem S3.app1 {v' : Value} (h : S3 w e s1 s2 s3 c1 c2 c3 cv0 cb0 ys1 ys2 ys3 p1 p2 p3 false false false a.tmps W) (hz : c1 < a.tmps.size) (ho : OwnB W' (w.heap.size + 1) 5 v' (cb0 ++ ys1)) (hg : W.grownBy W' cv0.ownBlock) (hv : v'.ownBlock = cv0.ownBlock ∨ v'.ownBlock = some W.heap.size)
    (n1 : c1 ≠ s2) (n2 : c1 ≠ s3) : S3 w e s1 s2 s3 c1 c2 c3 cv0 cb0 ys1 ys2 ys3 p1 p2 p3 true false false (a.put (some c1) v').tmps W' := by
  obtain ⟨q0, q1, q2, q3, q4, q5, q6, q7, q8, q9, q10⟩ := h
  have hrow : ∀ k, cv0.ownBlock = some k → w.heap.size + 1 ≤ k := fun k hk => (World.ownsRow.lt (q2 rfl) k hk).1
  refine ⟨pb_grown q0 hg hrow q1, Nat.le_trans q1 hg.size, (fun x => by cases x), fun _ _ => ?_, (fun x => by cases x), (fun x => by cases x), (fun _ x => by cases x), fun x y => ?_, fun x y => ?_, (fun _ => rfl), (fun x => by cases x)⟩
  · rw [put_getD_at hz]; exact ho
  · rw [put_getD_at hz, put_getD_far (by simpa using n1)]
    obtain ⟨r1, r2, _⟩ := q7 x y
    exact ⟨own_kept r1 hg (r2 rfl).ne, (fun z => by cases z), fun _ => (r2 rfl).grow hv (fun k hk => (World.ownsRow.lt r1 k hk).2)⟩
  · rw [put_getD_at hz, put_getD_far (by simpa using n2)]
    obtain ⟨r1, r2, _, _⟩ := q8 x y
    exact ⟨own_kept r1 hg (r2 rfl).ne, (fun z => by cases z), fun _ _ => (r2 rfl).grow hv (fun k hk => (World.ownsRow.lt r1 k hk).2), (fun z => by cases z)⟩
theorem S3.app2 {v' : Value} (h : S3 w e s1 s2 s3 c1 c2 c3 cv0 cb0 ys1 ys2 ys3 p1 p2 p3 true false false a.tmps W) (hz : c2 < a.tmps.size) (ho : OwnB W' (w.heap.size + 1) 5 v' ((cb0 ++ ys1) ++ ys2)) (hg : W.grownBy W' (a.tmps.getD c1 undef).ownBlock) (hv : v'.ownBlock = (a.tmps.getD c1 undef).ownBlock ∨ v'.ownBlock = some W.heap.size)
    (n2 : c2 ≠ s3) : S3 w e s1 s2 s3 c1 c2 c3 cv0 cb0 ys1 ys2 ys3 p1 p2 p3 true true false (a.put (some c2) v').tmps W' := by
  obtain ⟨q0, q1, q2, q3, q4, q5, q6, q7, q8, q9, q10⟩ := h
  have hrow : ∀ k, (a.tmps.getD c1 undef).ownBlock = some k → w.heap.size + 1 ≤ k := fun k hk => (World.ownsRow.lt (q3 rfl rfl) k hk).1
  refine ⟨pb_grown q0 hg hrow q1, Nat.le_trans q1 hg.size, (fun x => by cases x), (fun _ x => by cases x), fun _ _ => ?_, (fun x => by cases x), (fun _ x => by cases x), (fun _ x => by cases x), fun x y => ?_, (fun _ => rfl), (fun x => by cases x)⟩
  · rw [put_getD_at hz]; exact ho
  · rw [put_getD_at hz, put_getD_far (by simpa using n2)]
    obtain ⟨r1, _, r2, _⟩ := q8 x y
    exact ⟨own_kept r1 hg (r2 rfl rfl).ne, (fun z => by cases z), (fun _ z => by cases z), fun _ => (r2 rfl rfl).grow hv (fun k hk => (World.ownsRow.lt r1 k hk).2)⟩
theorem S3.app3 {v' : Value} (h : S3 w e s1 s2 s3 c1 c2 c3 cv0 cb0 ys1 ys2 ys3 p1 p2 p3 true true false a.tmps W) (hz : c3 < a.tmps.size) (ho : OwnB W' (w.heap.size + 1) 5 v' (((cb0 ++ ys1) ++ ys2) ++ ys3)) (hg : W.grownBy W' (a.tmps.getD c2 undef).ownBlock) :
    S3 w e s1 s2 s3 c1 c2 c3 cv0 cb0 ys1 ys2 ys3 p1 p2 p3 true true true (a.put (some c3) v').tmps W' := by
  obtain ⟨q0, q1, q2, q3, q4, q5, q6, q7, q8, q9, q10⟩ := h
  have hrow : ∀ k, (a.tmps.getD c2 undef).ownBlock = some k → w.heap.size + 1 ≤ k := fun k hk => (World.ownsRow.lt (q4 rfl rfl) k hk).1
  refine ⟨pb_grown q0 hg hrow q1, Nat.le_trans q1 hg.size, (fun x => by cases x), (fun _ x => by cases x), (fun _ x => by cases x), fun _ => ?_, (fun _ x => by cases x), (fun _ x => by cases x), (fun _ x => by cases x), (fun _ => rfl), (fun _ => rfl)⟩
  rw [put_getD_at hz]; exact ho
/-- the first bytes are made in the midst of it. -/
theorem S3.begin_ {v' : Value} (h : S3 w e s1 s2 s3 c1 c2 c3 cv0 cb0 ys1 ys2 ys3 p1 p2 p3 false false false a.tmps W) (hz : c1 < a.tmps.size) (hb : Below W.heap.size W W') (ho : OwnB W' W.heap.size 5 v' (cb0 ++ ys1))
    (n1 : c1 ≠ s2) (n2 : c1 ≠ s3) : S3 w e s1 s2 s3 c1 c2 c3 cv0 cb0 ys1 ys2 ys3 p1 p2 p3 true false false (a.put (some c1) v').tmps W' := by
  obtain ⟨q0, q1, q2, q3, q4, q5, q6, q7, q8, q9, q10⟩ := h
  refine ⟨q0.next hb, Nat.le_trans q1 hb.size, (fun x => by cases x), fun _ _ => ?_, (fun x => by cases x), (fun x => by cases x), (fun _ x => by cases x), fun x y => ?_, fun x y => ?_, (fun _ => rfl), (fun x => by cases x)⟩
  · rw [put_getD_at hz]; exact own_base ho q1
  · rw [put_getD_at hz, put_getD_far (by simpa using n1)]
    obtain ⟨r1, r2, _⟩ := q7 x y
    exact ⟨own_below r1 hb, (fun z => by cases z), fun _ => (apart_new r1 ho).symm⟩
  · rw [put_getD_at hz, put_getD_far (by simpa using n2)]
    obtain ⟨r1, r2, _, _⟩ := q8 x y
    exact ⟨own_below r1 hb, (fun z => by cases z), fun _ _ => (apart_new r1 ho).symm, (fun z => by cases z)⟩
theorem S3.first {t : Array Value} (hp : PB w W e) (hl : w.heap.size + 1 ≤ W.heap.size) (ho : OwnB W (w.heap.size + 1) 5 cv0 cb0) : S3 w e s1 s2 s3 c1 c2 c3 cv0 cb0 ys1 ys2 ys3 false false false false false false t W.drew :=
  ⟨hp.drew, hl, fun _ => ho, (fun x => by cases x), (fun x => by cases x), (fun x => by cases x), (fun x => by cases x), (fun x => by cases x), (fun x => by cases x), (fun x => by cases x), (fun x => by cases x)⟩
end
/-- append of bytes of the call's own onto bytes of the call's own. -/
theorem app_own {W : World} {base : Nat} {v u : Value} {xs ys : List UInt8} (h : OwnB W base 5 v xs) (h' : OwnB W base 5 u ys) (hb : base ≤ W.heap.size) (hs : xs.length + ys.length ≤ 1000) :
    ∃ v' W', (Builtin.append_ #[27, 27] 27 #[v, u]).run Try.prog W = .ok v' W' ∧ OwnB W' base 5 v' (xs ++ ys) ∧ W.grownBy W' v.ownBlock ∧ (v'.ownBlock = v.ownBlock ∨ v'.ownBlock = some W.heap.size) := by
  obtain ⟨A, c, rfl, hB, _⟩ := h'.open_
  exact app_any W base v xs ys h _ A c hB (by omega) hb
theorem ex_lit {a : Act} {W : World} {dst : Option Tmp} {ty : TypeId} {pos : String} {after : Array Edge} {guard : Option (Nat × Bool)} {x : Operand} {z : Int} (hx : a.eval x = .int .u8 z) :
    (execOp a.eval ⟨dst, .buildSlice 27 1 #[(0, x)], ty, pos, after, guard⟩).run Try.prog W = .ok (.value (.slice (some ⟨W.heap.size, 0, none⟩) 1 1)) (W.alloc (.cells #[.int .u8 z] 5)) := by
  have h : (Instr.buildSlice 27 1 #[(0, .int .u8 z)]).run Try.prog W = .ok (.slice (some ⟨W.heap.size, 0, none⟩) 1 1) (W.alloc (.cells #[.int .u8 z] 5)) := by go_simp
  have e : execOp a.eval ⟨dst, .buildSlice 27 1 #[(0, x)], ty, pos, after, guard⟩ = (do pure (.value (← Instr.buildSlice 27 1 #[(0, a.eval x)]))) := by unfold execOp; simp
  rw [e, hx]; simp only [Sem.run_bind, h, Result.andThen_ok, Sem.run_pure]
def AsD (c d : Nat) (b : Bool) (t : Array Value) : Prop := b = true → t.getD d undef = t.getD c undef
theorem AsD.put {c d : Nat} {b : Bool} {a : Act} {dst : Option Tmp} {v : Value} (h : AsD c d b a.tmps) (h1 : dst ≠ some c) (h2 : dst ≠ some d) : AsD c d b (a.put dst v).tmps := fun hb => by
  rw [put_getD_far h1, put_getD_far h2]; exact h hb
theorem AsD.no {c d : Nat} {b : Bool} {t : Array Value} (h : b = false) : AsD c d b t := fun hb => by rw [h] at hb; cases hb
theorem AsD.set {c d : Nat} {b : Bool} {a : Act} {v : Value} (h : d < a.tmps.size) (hcd : d ≠ c) (hv : v = a.tmps.getD c undef) : AsD c d b (a.put (some d) v).tmps := fun _ => by
  rw [put_getD_at h, put_getD_far (by simpa using hcd)]; exact hv
theorem end_own {c d : Nat} {t : Array Value} {f : Nat → Value} {W : World} {base : Nat} {xs : List UInt8} (h : OwnB W base 5 (t.getD c undef) xs) (h2 : t.getD d undef = t.getD c undef) (hd : t.getD d undef = f d) : OwnB W base 5 (f d) xs := by
  rw [← hd, h2]; exact h
theorem be_one (x : Nat) : be 1 x = [UInt8.ofNat x] := by
  show [UInt8.ofNat (x / 256 ^ 0)] = _
  simp
theorem word_z (z : Int) (x : Nat) (hz : z = (x : Int)) (hx : x ≤ 18446744073709551615) (w : World) :
    Calls Try.prog 64 #[.int .u64 z] w fun e w' => ∃ A n c, e = .returned (.slice A n c) ∧ n = (be 8 x).length ∧ OwnB w' w.heap.size 5 (.slice A n c) (be 8 x) ∧ Below w.heap.size w w' := by
  subst hz; exact word_any x hx w
theorem b8_int (x : Nat) (h : x ≤ 255) : (((UInt8.ofNat x).toNat : Nat) : Int) = (x : Int) := by
  have : (UInt8.ofNat x).toNat = x := by rw [UInt8.toNat_ofNat']; omega
  rw [this]
theorem b8_z {z : Int} (h0 : 0 ≤ z) (h : z ≤ 255) : (((UInt8.ofNat z.toNat).toNat : Nat) : Int) = z := by
  rw [b8_int _ (by omega)]; omega
end Go.Proofs.Ytjihbjjekhncaaa
