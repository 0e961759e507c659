import Derived.Test.YtjihbjjekhncaaaEvT
namespace Go.Proofs.Ytjihbjjekhncaaa
open Go.RowKit
/-! event: Take. -/
theorem evL_set {e g : Ev} (h : e.d.length = 6) (hd : g.d = e.d) (ho : g.o = e.o) (hs : g.s = e.s) (j : Nat) (v : Value)
    (hj : [Value.int .u8 (g.k : Int), .int .u64 (g.n : Int), .int .i64 g.t, .int .i64 g.a, .int .u64 (g.r : Int), .int .u64 (g.f : Int)] = [Value.int .u8 (e.k : Int), .int .u64 (e.n : Int), .int .i64 e.t, .int .i64 e.a, .int .u64 (e.r : Int), .int .u64 (e.f : Int)].set j v) :
    (evL e).set (8 + j) v = evL g := by
  unfold evL
  rw [hj, hd, ho, hs, show 8 + j = j + 6 + 1 + 1 by omega, List.set_cons_succ, List.set_cons_succ, List.set_append_right _ _ (by rw [vecL_len]; omega), vecL_len, h, Nat.add_sub_cancel]
theorem wrA_put {e g : Ev} (h : e.d.length = 6) {i : Nat} {v : Value} (hi : i < 14) (hs : (evL e).set i v = evL g) (A : Option Addr) (n c : Nat) : (wrA e A n c).setIfInBounds i v = wrA g A n c := by
  unfold wrA wrL
  rw [List.setIfInBounds_toArray, List.set_append_left _ _ (by rw [evL_len h]; exact hi), hs]
theorem wrA_vec {e : Ev} (h : e.d.length = 6) {L : List Nat} (hL : L.length = 6) (A : Option Addr) (n c : Nat) : setSeq (wrA e A n c) 2 (vecL L) = wrA { e with d := L } A n c := by
  obtain ⟨o, s, d, k, en, t, a, r, f⟩ := e
  obtain ⟨x0, x1, x2, x3, x4, x5, rfl⟩ := six h
  obtain ⟨y0, y1, y2, y3, y4, y5, rfl⟩ := six hL
  rfl
theorem mayE_mayV {e : Ev} (h : mayE e = true) : mayV e.d = true := by
  obtain ⟨_, _, _, _, _, h6⟩ := may_facts h
  unfold mayV
  rw [List.all_eq_true]
  intro x hx
  unfold mayN
  have := h6 x hx
  exact decide_eq_true (by omega)
structure TB (w W : World) (e : Ev) (b off n c : Nat) (rest : List UInt8) : Prop where
  res : EB W w.heap.size E0
  blk : Blk W (w.heap.size + 1) 76 (wrA e (some ⟨b, off, none⟩) n c)
  d6 : e.d.length = 6
  bytes : Bytes W w.heap.size (some ⟨b, off, none⟩) rest
  len : n = rest.length
  cap : n ≤ c
  bel : Below w.heap.size w W
section
variable {w W W' : World} {e : Ev} {b off n c : Nat} {rest : List UInt8}
theorem TB.next (h : TB w W e b off n c rest) (hb : Below W.heap.size W W') : TB w W' e b off n c rest :=
  ⟨h.res.after hb, h.blk.below hb h.blk.lt, h.d6, h.bytes.below (hb.mono h.bel.size), h.len, h.cap, h.bel.trans (hb.mono h.bel.size)⟩
theorem TB.rg (h : TB w W e b off n c rest) : W.rangeAt (w.heap.size + 1) 0 (evL e) := wr_rg h.blk
theorem TB.took (h : TB w W e b off n c rest) (k : Nat) (hk : k ≤ n) {o' : Nat} (hb : Bytes W w.heap.size (some ⟨b, o', none⟩) (rest.drop k)) :
    TB w (W.setCell ⟨w.heap.size + 1, 14, none⟩ (.slice (some ⟨b, o', none⟩) (n - k) (c - k))) e b o' (n - k) (c - k) (rest.drop k) := by
  refine ⟨h.res.far (by simp) _, ?_, h.d6, Reads.setCell hb (by simp) _, by rw [List.length_drop, h.len], by have := h.cap; omega, h.bel.setCell (p := ⟨w.heap.size + 1, 14, none⟩) (by simp) _⟩
  have := h.blk.set_ 14 (.slice (some ⟨b, o', none⟩) (n - k) (c - k))
  rwa [wrA_set h.d6] at this
theorem TB.put (h : TB w W e b off n c rest) {g : Ev} {i : Nat} {v : Value} (hi : i < 14) (hs : (evL e).set i v = evL g) (hd : g.d.length = 6) : TB w (W.setCell ⟨w.heap.size + 1, i, none⟩ v) g b off n c rest := by
  refine ⟨h.res.far (by simp) _, ?_, hd, Reads.setCell h.bytes (by simp) _, h.len, h.cap, h.bel.setCell (p := ⟨w.heap.size + 1, i, none⟩) (by simp) _⟩
  have := h.blk.set_ i v
  rwa [wrA_put h.d6 hi hs] at this
theorem TB.there (h : TB w W e b off n c rest) : W.there (w.heap.size + 1) 2 6 := fun r hr => by
  have hk : r < e.d.length := by rw [h.d6]; exact hr
  have hc := rg_d h.rg r hk
  simp only [Nat.zero_add] at hc
  exact ⟨by rw [hc]; rfl, h.blk.frozen _⟩
theorem TB.put_d (h : TB w W e b off n c rest) {L : List Nat} (hL : L.length = 6) : TB w (W.setCells (w.heap.size + 1) 2 (vecL L)) { e with d := L } b off n c rest := by
  refine ⟨⟨Blk.cellsFar (W := W) (by simp) _ _ _ h.res.blk, h.res.d6⟩, ?_, hL, h.bytes.keep fun p hp => ?_, h.len, h.cap, below_setCells (by simp) _ _ _ h.bel⟩
  · have := Blk.cells (W := W) (vecL L) _ 2 _ h.blk
    rwa [wrA_vec h.d6 hL] at this
  · exact (below_setCells (B := w.heap.size) (w := W) (k := w.heap.size + 1) (by simp) (vecL L) 2 W (Below.refl _ _)).cell hp
end
/-- the event whose bytes these are. -/
def ofB (r : List UInt8) : Ev :=
  let r1 := r.drop 1
  let r2 := r1.drop 8
  let r3 := r2.drop 48
  let r4 := r3.drop 1
  let r5 := r4.drop 8
  let r6 := r5.drop 1
  let r7 := r6.drop 8
  let r8 := r7.drop 8
  ⟨(vl (r.take 1) : Nat), vl (r1.take 8), ofV (r2.take 48) 6, vl (r3.take 1), vl (r4.take 8), (vl (r5.take 1) : Nat), IntKind.i64.wrap (vl (r6.take 8) : Nat), vl (r7.take 8), vl (r8.take 8)⟩
def takeE (bs : List UInt8) (z : Int) : Ev × Int × Int :=
  if z < 0 ∨ (bs.length : Int) < z then (E0, 0, 1)
  else if (bs.length : Int) - z < 91 then (E0, 0, 5)
  else if mayE (ofB ((bs.drop z.toNat).take 91)) = true then (ofB ((bs.drop z.toNat).take 91), z + 91, 0) else (E0, 0, 5)
theorem vl_one (bs : List UInt8) : vl (bs.take 1) ≤ 255 := by
  have := vl_lt (bs.take 1)
  have h1 : (bs.take 1).length ≤ 1 := by simp; omega
  have h2 : 256 ^ (bs.take 1).length ≤ 256 ^ 1 := Nat.pow_le_pow_right (by omega) h1
  omega
theorem vl_eight (bs : List UInt8) : vl (bs.take 8) ≤ 18446744073709551615 := by
  have := vl_lt (bs.take 8)
  have h1 : (bs.take 8).length ≤ 8 := by simp; omega
  have h2 : 256 ^ (bs.take 8).length ≤ 256 ^ 8 := Nat.pow_le_pow_right (by omega) h1
  omega
theorem ofB_ok (r : List UInt8) (h : r.length = 91) : (ofB r).ok := by
  have w1 : ∀ n : Nat, n ≤ 255 → (Lit.int .i64 (n : Int)).wf = true := fun n hn => by
    simp [Lit.wf, IntKind.min, IntKind.max, IntKind.signed, IntKind.bits]; omega
  refine ⟨ofV_len _ _, w1 _ (vl_one _), w1 _ (vl_one _), ?_, vl_eight _, fun x hx => ?_, vl_one _, vl_eight _, vl_eight _, vl_eight _⟩
  · show (Lit.int .i64 (IntKind.i64.wrap _)).wf = true
    rw [IntKind.wrap_i64]
    simp [Lit.wf, IntKind.min, IntKind.max, IntKind.signed, IntKind.bits]; omega
  · have hl : (((r.drop 1).drop 8).take 48).length = 6 * 8 := by simp [h]
    have := ofV_lt 6 _ hl x hx
    omega
def storeRd (p v : Value) : Sem Unit := Instr.storeAt 76 p v
def allocRd : Sem Value := Instr.alloc 76 true (.tuple #[])
def buildRd (v : Value) : Sem Value := Instr.build 76 #[(1, v)]
theorem exec_storeRd (ρ : Operand → Value) (dst : Option Tmp) (x y : Operand) (ty : TypeId) (pos : String) (after : Array Edge) (guard : Option (Nat × Bool)) :
    execOp ρ ⟨dst, .store 76 x y, ty, pos, after, guard⟩ = (do storeRd (ρ x) (ρ y); pure .skip) := rfl
theorem exec_allocRd (ρ : Operand → Value) (dst : Option Tmp) (ty : TypeId) (pos : String) (after : Array Edge) (guard : Option (Nat × Bool)) :
    execOp ρ ⟨dst, .alloc 76, ty, pos, after, guard⟩ = (do pure (.value (← allocRd))) := rfl
theorem exec_buildRd (ρ : Operand → Value) (dst : Option Tmp) (x : Operand) (ty : TypeId) (pos : String) (after : Array Edge) (guard : Option (Nat × Bool)) :
    execOp ρ ⟨dst, .build 76 #[(1, x)], ty, pos, after, guard⟩ = (do pure (.value (← buildRd (ρ x)))) := by unfold execOp buildRd; simp
theorem infoRd : (Try.prog.info? 76).map (·.size) = some 15 := by kernel_rfl
theorem run_allocRd (W : World) : allocRd.run Try.prog W = .ok (.pointer (some ⟨W.heap.size, 0, none⟩)) (W.alloc (.cells (wrA E0 none 0 0) 76)) := by
  unfold allocRd
  go_simp
  rfl
theorem run_buildRd (A : Option Addr) (n c : Nat) (W : World) : (buildRd (.slice A n c)).run Try.prog W = .ok (.agg (wrA E0 A n c)) W := by
  unfold buildRd
  go_simp
  rfl
theorem run_storeRd_new (A : Option Addr) (n c : Nat) (W : World) : (storeRd (.pointer (some ⟨W.heap.size, 0, none⟩)) (.agg (wrA E0 A n c))).run Try.prog (W.alloc (.cells (wrA E0 none 0 0) 76)) = .ok () (W.alloc (.cells (wrA E0 A n c) 76)) := by
  have h1 : (wrA E0 none 0 0).size = (wrA E0 A n c).size := rfl
  have hi : (Try.prog.info? 76).map (·.size) = some (wrA E0 A n c).size := by rw [wrA_size rfl]; exact infoRd
  have := run_storeVar_row (W.alloc (.cells (wrA E0 none 0 0) 76)) W.heap.size 76 76 (wrA E0 none 0 0) (wrA E0 A n c) (heap_alloc_new W _) hi h1 (wrA_one E0 A n c)
  unfold storeRd Instr.storeAt
  simp only [Instr.sureAddr, Sem.run_bind, Sem.run_pure, Result.andThen_ok, this]
  rw [setRow_new W W.heap.size rfl]
theorem results_cell_tmp2 {fn : Func} {p u v : Tmp} {ty : TypeId} (h : fn.results = #[.cell p ty, .tmp u, .tmp v]) (tmps : Array Value) (P : Program) (w : World) :
    (results fn tmps).run P w =
      ((asAddr (tmps.getD p undef)).run P w).andThen fun a w₁ => ((loadVar ty a).run P w₁).andThen fun x w₂ => .ok (.tuple #[x, tmps.getD u undef, tmps.getD v undef]) w₂ := by
  simp only [results, h]
  simp [Sem.run_bind, Result.andThen]
/-- a call hands back an event that lies in a block, and two numbers. -/
theorem retE2 {W : World} {g : Nat} {e : Ev} (h : EB W g e) {fn : Func} {p u v : Tmp} (hf : fn.results = #[.cell p 26, .tmp u, .tmp v]) (tmps : Array Value) (hp : tmps.getD p undef = .pointer (some ⟨g, 0, none⟩)) :
    (results fn tmps).run Try.prog W = .ok (.tuple #[.agg (evA e), tmps.getD u undef, tmps.getD v undef]) W := by
  have hl : (loadVar 26 ⟨g, 0, none⟩).run Try.prog W = .ok (.agg (evA e)) W :=
    run_loadVar_row W g 26 26 (evA e) (0, 0) _ h.blk Try.underlying26 rfl (infoE_of h.d6)
  rw [results_cell_tmp2 hf, hp]
  simp [asAddr, hl, Result.andThen]
attribute [local go_sem ↓] exec_loadE exec_storeE exec_allocE exec_buildE exec_loadV exec_storeV exec_storeRd exec_allocRd exec_buildRd
set_option maxRecDepth 100000 in
set_option maxHeartbeats 1000000 in
theorem etake_out (A : Option Addr) (m c : Nat) (z : Int) (hz : z < 0 ∨ (m : Int) < z ∨ (m : Int) - z < 91) (hm : m ≤ maxLen) (w : World) : Calls Try.prog 16 #[.slice A m c, .int .i64 z] w fun x w' => x = .returned (.tuple #[.agg (evA E0), .int .i64 0, .int .i64 (if z < 0 ∨ (m : Int) < z then 1 else 5)]) ∧ Below w.heap.size w w' := by
  unfold maxLen at hm
  have aE := run_allocE
  have bE := run_buildE0
  have sE := run_storeE_new (e := E0) rfl w
  have R0 : EB (w.alloc (.cells (evA E0) 26)) w.heap.size E0 := EB.new w rfl
  have hb := (Below.refl w.heap.size w).alloc (Nat.le_refl _) (.cells (evA E0) 26)
  by_cases h1 : z < 0
  case' pos =>
    rw [if_pos (.inl h1)]
    clear hz
  case' neg =>
    by_cases h2 : (m : Int) < z
    case' pos =>
      rw [if_pos (.inr h2)]
      clear hz
    case' neg =>
      have h3 : (m : Int) - z < 91 := by omega
      rw [if_neg (by omega)]
      clear hz
  all_goals
    go_enter Try.func16, Try.ntmps16
    go_wp2_with fail
    exact bodyPost_ret (retE2 R0 Try.results16 _ rfl) rfl ⟨rfl, hb⟩
set_option maxRecDepth 100000 in
set_option maxHeartbeats 1000000 in
theorem etake_in (A : Option Addr) (m c : Nat) (bs : List UInt8) (a : Nat) (w : World) (hb : Bytes w w.heap.size A bs) (hm : m = bs.length) (hmc : m ≤ c) (hc : c ≤ maxLen) (ha : a + 91 ≤ m) (X : Value) (hX : Hid (X = if mayE (ofB ((bs.drop a).take 91)) = true then .tuple #[.agg (evA (ofB ((bs.drop a).take 91))), .int .i64 ((a : Int) + 91), .int .i64 0] else .tuple #[.agg (evA E0), .int .i64 0, .int .i64 5])) : Calls Try.prog 16 #[.slice A m c, .int .i64 (a : Int)] w fun x w' => x = .returned X ∧ Below w.heap.size w w' := by
  unfold maxLen at hc
  have hl : ((bs.drop a).take 91).length = 91 := by simp; omega
  have hok := ofB_ok _ hl
  obtain ⟨b, off, rfl, hB, hx⟩ := hb.at_ (k := a) (by omega)
  clear hx
  have hbr : Bytes w w.heap.size (some ⟨b, off + a, none⟩) ((bs.drop a).take 91) := bytes_take (bytes_drop hb a (by omega)) 91 (by simp; omega)
  generalize hr : (bs.drop a).take 91 = r at hbr hl hok hX
  have hadd : (⟨b, off, none⟩ : Addr).add a = ⟨b, off + a, none⟩ := Addr.add_mid b off a
  have T0 : TB w ((w.alloc (.cells (evA E0) 26)).alloc (.cells (wrA E0 (some ⟨b, off + a, none⟩) 91 (c - a)) 76)) E0 b (off + a) 91 (c - a) r := by
    refine ⟨(EB.new w rfl).alloc _, ?_, rfl, Reads.alloc (Reads.alloc hbr (Nat.le_refl _) _) (by simp) _, hl.symm, by omega, ((Below.refl _ _).alloc (Nat.le_refl _) _).alloc (by simp) _⟩
    have := Blk.new (w.alloc (.cells (evA E0) 26)) 76 (wrA E0 (some ⟨b, off + a, none⟩) 91 (c - a))
    rw [show (w.alloc (.cells (evA E0) 26)).heap.size = w.heap.size + 1 by simp] at this
    exact this
  have aE := run_allocE w
  have aR := run_allocRd (w.alloc (.cells (evA E0) 26))
  have bR := run_buildRd (some ⟨b, off + a, none⟩) 91 (c - a) (w.alloc (.cells (evA E0) 26))
  have sR := run_storeRd_new (some ⟨b, off + a, none⟩) 91 (c - a) (w.alloc (.cells (evA E0) 26))
  rw [show (w.alloc (.cells (evA E0) 26)).heap.size = w.heap.size + 1 by simp] at aR sR
  have h1 : ¬ (a : Int) < 0 := by omega
  have h2 : ¬ (m : Int) < (a : Int) := by omega
  have h3 : ¬ (m : Int) - (a : Int) < 91 := by omega
  have h4 : (a : Int) + 91 ≤ (c : Int) := by omega
  have h5 : a + 91 - a = 91 := by omega
  have h6 : ¬ c - a = 0 := by omega
  have h7 : (m : Int) ≤ 9223372036854775807 := by omega
  have hca : 91 ≤ c - a := by omega
  have HCA := Lib.hid hca
  clear hca
  have HT := Lib.hid T0
  have OKR := Lib.hid hok
  have LR := Lib.hid hl
  clear T0 hm hmc ha hb hbr hl hr hok hB
  go_enter Try.func16, Try.ntmps16
  go_wp2_with fail
  refine (rtake_any 1 (.inl rfl) _ (w.heap.size + 1) w.heap.size _ HT.out.d6 b _ _ _ _ HT.out.blk HT.out.bytes HT.out.bel.size HT.out.len (by omega) HT.out.cap (by omega)).mono ?_
  rintro _ v1 ⟨rfl, o1, hw, hb1⟩
  have K1 : Hid (TB w v1 ⟨0, 0, Z6, 0, 0, 0, 0, 0, 0⟩ b o1 (91 - 1) ((c - a) - 1) ((r).drop 1)) := by
    show TB _ _ _ _ _ _ _ _
    rw [hw]; exact HT.out.took 1 (by omega) hb1
  clear hw hb1
  have bd1 := vl_one (r)
  generalize hx : vl ((r).take 1) = x1 at bd1 ⊢
  have X1 := Lib.hid hx
  clear hx
  have wx : IntKind.i64.wrap (x1 : Int) = (x1 : Int) := by rw [IntKind.wrap_i64]; omega
  obtain ⟨cz, cc⟩ : ∃ z, v1.cell? ⟨w.heap.size + 1, 0, none⟩ = some z := by
    have := rg_o K1.out.rg
    simp only [Nat.zero_add] at this
    exact ⟨_, this⟩
  have ff := K1.out.blk.frozen 0
  have L1 : Hid (TB w (v1.setCell ⟨w.heap.size + 1, 0, none⟩ (.int .i64 (x1 : Int))) ⟨(x1 : Int), 0, Z6, 0, 0, 0, 0, 0, 0⟩ b o1 (91 - 1) ((c - a) - 1) ((r).drop 1)) := TB.put (e := ⟨0, 0, Z6, 0, 0, 0, 0, 0, 0⟩) (g := ⟨(x1 : Int), 0, Z6, 0, 0, 0, 0, 0, 0⟩) K1.out (by omega) (rfl) K1.out.d6
  go_wp2_with fail
  generalize v1.setCell ⟨w.heap.size + 1, 0, none⟩ (.int .i64 (x1 : Int)) = u1 at L1 ⊢
  clear cc ff wx
  refine (rtake_any 8 (.inr (.inr (.inr rfl))) _ (w.heap.size + 1) w.heap.size _ L1.out.d6 b _ _ _ _ L1.out.blk L1.out.bytes L1.out.bel.size L1.out.len (by omega) L1.out.cap (by omega)).mono ?_
  rintro _ v2 ⟨rfl, o2, hw, hb2⟩
  have K2 : Hid (TB w v2 ⟨(x1 : Int), 0, Z6, 0, 0, 0, 0, 0, 0⟩ b o2 (91 - 1 - 8) (((c - a) - 1) - 8) (((r).drop 1).drop 8)) := by
    show TB _ _ _ _ _ _ _ _
    rw [hw]; exact L1.out.took 8 (by omega) hb2
  clear hw hb2
  have bd2 := vl_eight ((r).drop 1)
  generalize hx : vl (((r).drop 1).take 8) = x2 at bd2 ⊢
  have X2 := Lib.hid hx
  clear hx
  obtain ⟨cz, cc⟩ : ∃ z, v2.cell? ⟨w.heap.size + 1, 1, none⟩ = some z := by
    have := rg_s K2.out.rg
    simp only [Nat.zero_add] at this
    exact ⟨_, this⟩
  have ff := K2.out.blk.frozen 1
  have L2 : Hid (TB w (v2.setCell ⟨w.heap.size + 1, 1, none⟩ (.int .u64 (x2 : Int))) ⟨(x1 : Int), x2, Z6, 0, 0, 0, 0, 0, 0⟩ b o2 (91 - 1 - 8) (((c - a) - 1) - 8) (((r).drop 1).drop 8)) := TB.put (e := ⟨(x1 : Int), 0, Z6, 0, 0, 0, 0, 0, 0⟩) (g := ⟨(x1 : Int), x2, Z6, 0, 0, 0, 0, 0, 0⟩) K2.out (by omega) (rfl) K2.out.d6
  obtain ⟨n2, c2, N2, C2, B2⟩ : ∃ n2 c2, Hid (n2 = 91 - 1 - 8) ∧ Hid (c2 = c - a - 1 - 8) ∧ 82 ≤ c2 := ⟨91 - 1 - 8, c - a - 1 - 8, Lib.hid rfl, Lib.hid rfl, by have := HCA.out; omega⟩
  have c14 := K2.out.blk.cell 14
  rw [wrA_at K2.out.d6, show (91 - 1 - 8 : Nat) = n2 from N2.out.symm, show c - a - 1 - 8 = c2 from C2.out.symm] at c14
  have q1 : (48 : Int) ≤ (c2 : Int) := by omega
  go_wp2_with fail
  generalize v2.setCell ⟨w.heap.size + 1, 1, none⟩ (.int .u64 (x2 : Int)) = u2 at L2 ⊢
  clear cc ff
  have DB : Hid (Bytes u2 u2.heap.size (some ⟨b, o2, none⟩) (((((r).drop 1).drop 8)).take 48)) := (bytes_take (L2.out.bytes.more L2.out.bel.size) 48 (by have := L2.out.len; omega))
  have DL : Hid (((((r).drop 1).drop 8).take 48).length = 48) := by show _ = _; rw [List.length_take]; have := L2.out.len; omega
  refine (vof_any (some ⟨b, o2, none⟩) 48 c2 _ u2 DB.out DL.out.symm).mono ?_
  rintro _ v9 ⟨rfl, hb9⟩
  have M := Lib.hid (L2.out.next hb9)
  clear hb9
  obtain ⟨V, hV⟩ : ∃ V, Hid (ofV ((((r).drop 1).drop 8).take 48) 6 = V) := ⟨_, Lib.hid rfl⟩
  have V6 : Hid (V.length = 6) := by show _ = _; rw [← hV.out]; exact ofV_len _ _
  have st := fun L hL => run_storeV_mid (L := L) hL M.out.there
  cases hmv : mayV V
  case false =>
    have RV : Hid (ofR ((((r).drop 1).drop 8).take 48) = (Z6, 5)) := ofR_no (by rw [hV.out]; exact hmv)
    rw [RV.out]
    have s6 := st Z6 rfl
    have MZ : Hid (TB w (v9.setCells (w.heap.size + 1) 2 (vecL Z6)) ⟨(x1 : Int), x2, Z6, 0, 0, 0, 0, 0, 0⟩ b o2 (91 - 1 - 8) (c - a - 1 - 8) (((r).drop 1).drop 8)) := M.out.put_d rfl
    have bE := run_buildE0
    have sE := run_storeE (e := E0) rfl MZ.out.res.blk rfl
    generalize v9.setCells (w.heap.size + 1) 2 (vecL Z6) = v10 at MZ s6 sE
    clear st c14
    go_wp2_with fail
    have NO : mayE (ofB r) = false := by
      cases hq : mayE (ofB r)
      · rfl
      · have := mayE_mayV hq
        rw [show (ofB r).d = V from hV.out, hmv] at this; cases this
    exact bodyPost_ret (retE2 (g := w.heap.size) ⟨MZ.out.res.blk.row (evA E0), rfl⟩ Try.results16 _ rfl) rfl ⟨by rw [hX.out, NO]; rfl, below_setRow MZ.out.bel (Nat.le_refl _) _⟩
  case true =>
    have RV : Hid (ofR ((((r).drop 1).drop 8).take 48) = (V, 0)) := by show _ = _; rw [ofR_yes DL.out (by rw [hV.out]; exact hmv), hV.out]
    rw [RV.out]
    have s6 := st V V6.out
    have MV : Hid (TB w (v9.setCells (w.heap.size + 1) 2 (vecL V)) ⟨(x1 : Int), x2, V, 0, 0, 0, 0, 0, 0⟩ b o2 (91 - 1 - 8) (c - a - 1 - 8) (((r).drop 1).drop 8)) := M.out.put_d V6.out
    have d14 := MV.out.blk.cell 14
    have f14 := MV.out.blk.frozen 14
    rw [wrA_at MV.out.d6, show (91 - 1 - 8 : Nat) = n2 from N2.out.symm, show c - a - 1 - 8 = c2 from C2.out.symm] at d14
    generalize v9.setCells (w.heap.size + 1) 2 (vecL V) = v10 at MV s6 d14 f14
    clear st c14 hmv
    have q2 : (48 : Int) ≤ (n2 : Int) := by have := N2.out; omega
    have q3 : (n2 : Int) ≤ (c2 : Int) := by have := N2.out; omega
    have q4 : ¬ c2 - 48 = 0 := by omega
    have hadd2 : (⟨b, o2, none⟩ : Addr).add 48 = ⟨b, o2 + 48, none⟩ := Addr.add_mid b o2 48
    go_wp2_with fail
    have MW : Hid (TB w (v10.setCell ⟨w.heap.size + 1, 14, none⟩ (.slice (some ⟨b, o2 + 48, none⟩) (n2 - 48) (c2 - 48))) ⟨(x1 : Int), x2, V, 0, 0, 0, 0, 0, 0⟩ b (o2 + 48) (91 - 1 - 8 - 48) (c - a - 1 - 8 - 48) ((((r).drop 1).drop 8).drop 48)) := by
      have := MV.out.took 48 (by omega) (bytes_drop MV.out.bytes 48 (by have := MV.out.len; omega))
      rw [← N2.out, ← C2.out] at this
      show TB _ _ _ _ _ _ _ _
      rw [← N2.out, ← C2.out]; exact this
    generalize v10.setCell ⟨w.heap.size + 1, 14, none⟩ (.slice (some ⟨b, o2 + 48, none⟩) (n2 - 48) (c2 - 48)) = v11 at MW ⊢
    clear s6 d14 f14 q1 q2 q3 q4 hadd2
    refine (rtake_any 1 (.inl rfl) _ (w.heap.size + 1) w.heap.size _ MW.out.d6 b _ _ _ _ MW.out.blk MW.out.bytes MW.out.bel.size MW.out.len (by omega) MW.out.cap (by omega)).mono ?_
    rintro _ v3 ⟨rfl, o3, hw, hb3⟩
    have K3 : Hid (TB w v3 ⟨(x1 : Int), x2, V, 0, 0, 0, 0, 0, 0⟩ b o3 (91 - 1 - 8 - 48 - 1) ((c - a - 1 - 8 - 48) - 1) (((((r).drop 1).drop 8).drop 48).drop 1)) := by
      show TB _ _ _ _ _ _ _ _
      rw [hw]; exact MW.out.took 1 (by omega) hb3
    clear hw hb3
    have bd3 := vl_one ((((r).drop 1).drop 8).drop 48)
    generalize hx : vl (((((r).drop 1).drop 8).drop 48).take 1) = x3 at bd3 ⊢
    have X3 := Lib.hid hx
    clear hx
    have wx : IntKind.u8.wrap (x3 : Int) = (x3 : Int) := by rw [IntKind.wrap_u8]; omega
    obtain ⟨cz, cc⟩ : ∃ z, v3.cell? ⟨w.heap.size + 1, 8, none⟩ = some z := by
      have := rg_k K3.out.rg K3.out.d6
      simp only [Nat.zero_add] at this
      exact ⟨_, this⟩
    have ff := K3.out.blk.frozen 8
    have L3 : Hid (TB w (v3.setCell ⟨w.heap.size + 1, 8, none⟩ (.int .u8 (x3 : Int))) ⟨(x1 : Int), x2, V, x3, 0, 0, 0, 0, 0⟩ b o3 (91 - 1 - 8 - 48 - 1) ((c - a - 1 - 8 - 48) - 1) (((((r).drop 1).drop 8).drop 48).drop 1)) := TB.put (e := ⟨(x1 : Int), x2, V, 0, 0, 0, 0, 0, 0⟩) (g := ⟨(x1 : Int), x2, V, x3, 0, 0, 0, 0, 0⟩) K3.out (by omega) (evL_set (e := ⟨(x1 : Int), x2, V, 0, 0, 0, 0, 0, 0⟩) (g := ⟨(x1 : Int), x2, V, x3, 0, 0, 0, 0, 0⟩) K3.out.d6 rfl rfl rfl 0 _ rfl) K3.out.d6
    go_wp2_with fail
    generalize v3.setCell ⟨w.heap.size + 1, 8, none⟩ (.int .u8 (x3 : Int)) = u3 at L3 ⊢
    clear cc ff wx
    refine (rtake_any 8 (.inr (.inr (.inr rfl))) _ (w.heap.size + 1) w.heap.size _ L3.out.d6 b _ _ _ _ L3.out.blk L3.out.bytes L3.out.bel.size L3.out.len (by omega) L3.out.cap (by omega)).mono ?_
    rintro _ v4 ⟨rfl, o4, hw, hb4⟩
    have K4 : Hid (TB w v4 ⟨(x1 : Int), x2, V, x3, 0, 0, 0, 0, 0⟩ b o4 (91 - 1 - 8 - 48 - 1 - 8) (((c - a - 1 - 8 - 48) - 1) - 8) ((((((r).drop 1).drop 8).drop 48).drop 1).drop 8)) := by
      show TB _ _ _ _ _ _ _ _
      rw [hw]; exact L3.out.took 8 (by omega) hb4
    clear hw hb4
    have bd4 := vl_eight (((((r).drop 1).drop 8).drop 48).drop 1)
    generalize hx : vl ((((((r).drop 1).drop 8).drop 48).drop 1).take 8) = x4 at bd4 ⊢
    have X4 := Lib.hid hx
    clear hx
    obtain ⟨cz, cc⟩ : ∃ z, v4.cell? ⟨w.heap.size + 1, 9, none⟩ = some z := by
      have := rg_n K4.out.rg K4.out.d6
      simp only [Nat.zero_add] at this
      exact ⟨_, this⟩
    have ff := K4.out.blk.frozen 9
    have L4 : Hid (TB w (v4.setCell ⟨w.heap.size + 1, 9, none⟩ (.int .u64 (x4 : Int))) ⟨(x1 : Int), x2, V, x3, x4, 0, 0, 0, 0⟩ b o4 (91 - 1 - 8 - 48 - 1 - 8) (((c - a - 1 - 8 - 48) - 1) - 8) ((((((r).drop 1).drop 8).drop 48).drop 1).drop 8)) := TB.put (e := ⟨(x1 : Int), x2, V, x3, 0, 0, 0, 0, 0⟩) (g := ⟨(x1 : Int), x2, V, x3, x4, 0, 0, 0, 0⟩) K4.out (by omega) (evL_set (e := ⟨(x1 : Int), x2, V, x3, 0, 0, 0, 0, 0⟩) (g := ⟨(x1 : Int), x2, V, x3, x4, 0, 0, 0, 0⟩) K4.out.d6 rfl rfl rfl 1 _ rfl) K4.out.d6
    go_wp2_with fail
    generalize v4.setCell ⟨w.heap.size + 1, 9, none⟩ (.int .u64 (x4 : Int)) = u4 at L4 ⊢
    clear cc ff
    refine (rtake_any 1 (.inl rfl) _ (w.heap.size + 1) w.heap.size _ L4.out.d6 b _ _ _ _ L4.out.blk L4.out.bytes L4.out.bel.size L4.out.len (by omega) L4.out.cap (by omega)).mono ?_
    rintro _ v5 ⟨rfl, o5, hw, hb5⟩
    have K5 : Hid (TB w v5 ⟨(x1 : Int), x2, V, x3, x4, 0, 0, 0, 0⟩ b o5 (91 - 1 - 8 - 48 - 1 - 8 - 1) ((((c - a - 1 - 8 - 48) - 1) - 8) - 1) (((((((r).drop 1).drop 8).drop 48).drop 1).drop 8).drop 1)) := by
      show TB _ _ _ _ _ _ _ _
      rw [hw]; exact L4.out.took 1 (by omega) hb5
    clear hw hb5
    have bd5 := vl_one ((((((r).drop 1).drop 8).drop 48).drop 1).drop 8)
    generalize hx : vl (((((((r).drop 1).drop 8).drop 48).drop 1).drop 8).take 1) = x5 at bd5 ⊢
    have X5 := Lib.hid hx
    clear hx
    have wx : IntKind.i64.wrap (x5 : Int) = (x5 : Int) := by rw [IntKind.wrap_i64]; omega
    obtain ⟨cz, cc⟩ : ∃ z, v5.cell? ⟨w.heap.size + 1, 10, none⟩ = some z := by
      have := rg_t K5.out.rg K5.out.d6
      simp only [Nat.zero_add] at this
      exact ⟨_, this⟩
    have ff := K5.out.blk.frozen 10
    have L5 : Hid (TB w (v5.setCell ⟨w.heap.size + 1, 10, none⟩ (.int .i64 (x5 : Int))) ⟨(x1 : Int), x2, V, x3, x4, (x5 : Int), 0, 0, 0⟩ b o5 (91 - 1 - 8 - 48 - 1 - 8 - 1) ((((c - a - 1 - 8 - 48) - 1) - 8) - 1) (((((((r).drop 1).drop 8).drop 48).drop 1).drop 8).drop 1)) := TB.put (e := ⟨(x1 : Int), x2, V, x3, x4, 0, 0, 0, 0⟩) (g := ⟨(x1 : Int), x2, V, x3, x4, (x5 : Int), 0, 0, 0⟩) K5.out (by omega) (evL_set (e := ⟨(x1 : Int), x2, V, x3, x4, 0, 0, 0, 0⟩) (g := ⟨(x1 : Int), x2, V, x3, x4, (x5 : Int), 0, 0, 0⟩) K5.out.d6 rfl rfl rfl 2 _ rfl) K5.out.d6
    go_wp2_with fail
    generalize v5.setCell ⟨w.heap.size + 1, 10, none⟩ (.int .i64 (x5 : Int)) = u5 at L5 ⊢
    clear cc ff wx
    refine (rtake_any 8 (.inr (.inr (.inr rfl))) _ (w.heap.size + 1) w.heap.size _ L5.out.d6 b _ _ _ _ L5.out.blk L5.out.bytes L5.out.bel.size L5.out.len (by omega) L5.out.cap (by omega)).mono ?_
    rintro _ v6 ⟨rfl, o6, hw, hb6⟩
    have K6 : Hid (TB w v6 ⟨(x1 : Int), x2, V, x3, x4, (x5 : Int), 0, 0, 0⟩ b o6 (91 - 1 - 8 - 48 - 1 - 8 - 1 - 8) (((((c - a - 1 - 8 - 48) - 1) - 8) - 1) - 8) ((((((((r).drop 1).drop 8).drop 48).drop 1).drop 8).drop 1).drop 8)) := by
      show TB _ _ _ _ _ _ _ _
      rw [hw]; exact L5.out.took 8 (by omega) hb6
    clear hw hb6
    have bd6 := vl_eight (((((((r).drop 1).drop 8).drop 48).drop 1).drop 8).drop 1)
    generalize hx : vl ((((((((r).drop 1).drop 8).drop 48).drop 1).drop 8).drop 1).take 8) = x6 at bd6 ⊢
    have X6 := Lib.hid hx
    clear hx
    obtain ⟨z6, wx⟩ : ∃ z, IntKind.i64.wrap (x6 : Int) = z := ⟨_, rfl⟩
    have Z6 := Lib.hid wx
    obtain ⟨cz, cc⟩ : ∃ z, v6.cell? ⟨w.heap.size + 1, 11, none⟩ = some z := by
      have := rg_a K6.out.rg K6.out.d6
      simp only [Nat.zero_add] at this
      exact ⟨_, this⟩
    have ff := K6.out.blk.frozen 11
    have L6 : Hid (TB w (v6.setCell ⟨w.heap.size + 1, 11, none⟩ (.int .i64 z6)) ⟨(x1 : Int), x2, V, x3, x4, (x5 : Int), z6, 0, 0⟩ b o6 (91 - 1 - 8 - 48 - 1 - 8 - 1 - 8) (((((c - a - 1 - 8 - 48) - 1) - 8) - 1) - 8) ((((((((r).drop 1).drop 8).drop 48).drop 1).drop 8).drop 1).drop 8)) := TB.put (e := ⟨(x1 : Int), x2, V, x3, x4, (x5 : Int), 0, 0, 0⟩) (g := ⟨(x1 : Int), x2, V, x3, x4, (x5 : Int), z6, 0, 0⟩) K6.out (by omega) (evL_set (e := ⟨(x1 : Int), x2, V, x3, x4, (x5 : Int), 0, 0, 0⟩) (g := ⟨(x1 : Int), x2, V, x3, x4, (x5 : Int), z6, 0, 0⟩) K6.out.d6 rfl rfl rfl 3 _ rfl) K6.out.d6
    go_wp2_with fail
    generalize v6.setCell ⟨w.heap.size + 1, 11, none⟩ (.int .i64 z6) = u6 at L6 ⊢
    clear cc ff wx
    refine (rtake_any 8 (.inr (.inr (.inr rfl))) _ (w.heap.size + 1) w.heap.size _ L6.out.d6 b _ _ _ _ L6.out.blk L6.out.bytes L6.out.bel.size L6.out.len (by omega) L6.out.cap (by omega)).mono ?_
    rintro _ v7 ⟨rfl, o7, hw, hb7⟩
    have K7 : Hid (TB w v7 ⟨(x1 : Int), x2, V, x3, x4, (x5 : Int), z6, 0, 0⟩ b o7 (91 - 1 - 8 - 48 - 1 - 8 - 1 - 8 - 8) ((((((c - a - 1 - 8 - 48) - 1) - 8) - 1) - 8) - 8) (((((((((r).drop 1).drop 8).drop 48).drop 1).drop 8).drop 1).drop 8).drop 8)) := by
      show TB _ _ _ _ _ _ _ _
      rw [hw]; exact L6.out.took 8 (by omega) hb7
    clear hw hb7
    have bd7 := vl_eight ((((((((r).drop 1).drop 8).drop 48).drop 1).drop 8).drop 1).drop 8)
    generalize hx : vl (((((((((r).drop 1).drop 8).drop 48).drop 1).drop 8).drop 1).drop 8).take 8) = x7 at bd7 ⊢
    have X7 := Lib.hid hx
    clear hx
    obtain ⟨cz, cc⟩ : ∃ z, v7.cell? ⟨w.heap.size + 1, 12, none⟩ = some z := by
      have := rg_r K7.out.rg K7.out.d6
      simp only [Nat.zero_add] at this
      exact ⟨_, this⟩
    have ff := K7.out.blk.frozen 12
    have L7 : Hid (TB w (v7.setCell ⟨w.heap.size + 1, 12, none⟩ (.int .u64 (x7 : Int))) ⟨(x1 : Int), x2, V, x3, x4, (x5 : Int), z6, x7, 0⟩ b o7 (91 - 1 - 8 - 48 - 1 - 8 - 1 - 8 - 8) ((((((c - a - 1 - 8 - 48) - 1) - 8) - 1) - 8) - 8) (((((((((r).drop 1).drop 8).drop 48).drop 1).drop 8).drop 1).drop 8).drop 8)) := TB.put (e := ⟨(x1 : Int), x2, V, x3, x4, (x5 : Int), z6, 0, 0⟩) (g := ⟨(x1 : Int), x2, V, x3, x4, (x5 : Int), z6, x7, 0⟩) K7.out (by omega) (evL_set (e := ⟨(x1 : Int), x2, V, x3, x4, (x5 : Int), z6, 0, 0⟩) (g := ⟨(x1 : Int), x2, V, x3, x4, (x5 : Int), z6, x7, 0⟩) K7.out.d6 rfl rfl rfl 4 _ rfl) K7.out.d6
    go_wp2_with fail
    generalize v7.setCell ⟨w.heap.size + 1, 12, none⟩ (.int .u64 (x7 : Int)) = u7 at L7 ⊢
    clear cc ff
    refine (rtake_any 8 (.inr (.inr (.inr rfl))) _ (w.heap.size + 1) w.heap.size _ L7.out.d6 b _ _ _ _ L7.out.blk L7.out.bytes L7.out.bel.size L7.out.len (by omega) L7.out.cap (by omega)).mono ?_
    rintro _ v8 ⟨rfl, o8, hw, hb8⟩
    have K8 : Hid (TB w v8 ⟨(x1 : Int), x2, V, x3, x4, (x5 : Int), z6, x7, 0⟩ b o8 (91 - 1 - 8 - 48 - 1 - 8 - 1 - 8 - 8 - 8) (((((((c - a - 1 - 8 - 48) - 1) - 8) - 1) - 8) - 8) - 8) ((((((((((r).drop 1).drop 8).drop 48).drop 1).drop 8).drop 1).drop 8).drop 8).drop 8)) := by
      show TB _ _ _ _ _ _ _ _
      rw [hw]; exact L7.out.took 8 (by omega) hb8
    clear hw hb8
    have bd8 := vl_eight (((((((((r).drop 1).drop 8).drop 48).drop 1).drop 8).drop 1).drop 8).drop 8)
    generalize hx : vl ((((((((((r).drop 1).drop 8).drop 48).drop 1).drop 8).drop 1).drop 8).drop 8).take 8) = x8 at bd8 ⊢
    have X8 := Lib.hid hx
    clear hx
    obtain ⟨cz, cc⟩ : ∃ z, v8.cell? ⟨w.heap.size + 1, 13, none⟩ = some z := by
      have := rg_f K8.out.rg K8.out.d6
      simp only [Nat.zero_add] at this
      exact ⟨_, this⟩
    have ff := K8.out.blk.frozen 13
    have L8 : Hid (TB w (v8.setCell ⟨w.heap.size + 1, 13, none⟩ (.int .u64 (x8 : Int))) ⟨(x1 : Int), x2, V, x3, x4, (x5 : Int), z6, x7, x8⟩ b o8 (91 - 1 - 8 - 48 - 1 - 8 - 1 - 8 - 8 - 8) (((((((c - a - 1 - 8 - 48) - 1) - 8) - 1) - 8) - 8) - 8) ((((((((((r).drop 1).drop 8).drop 48).drop 1).drop 8).drop 1).drop 8).drop 8).drop 8)) := TB.put (e := ⟨(x1 : Int), x2, V, x3, x4, (x5 : Int), z6, x7, 0⟩) (g := ⟨(x1 : Int), x2, V, x3, x4, (x5 : Int), z6, x7, x8⟩) K8.out (by omega) (evL_set (e := ⟨(x1 : Int), x2, V, x3, x4, (x5 : Int), z6, x7, 0⟩) (g := ⟨(x1 : Int), x2, V, x3, x4, (x5 : Int), z6, x7, x8⟩) K8.out.d6 rfl rfl rfl 5 _ rfl) K8.out.d6
    have EV : Hid (ofB r = ⟨(x1 : Int), x2, V, x3, x4, (x5 : Int), z6, x7, x8⟩) := by
      show _ = _
      unfold ofB
      simp only [X1.out, X2.out, hV.out, X3.out, X4.out, X5.out, X6.out, X7.out, X8.out, Z6.out]
    have OKE := OKR.out
    rw [EV.out] at OKE
    have le := run_loadE_mid (b := w.heap.size + 1) (o := 0) OKE.d6 L8.out.rg
    have MY := Lib.hid (emay_any _ OKE)
    go_wp2_with fail
    generalize v8.setCell ⟨w.heap.size + 1, 13, none⟩ (.int .u64 (x8 : Int)) = u8 at L8 le ⊢
    clear cc ff
    refine (MY.out _).mono ?_
    rintro _ v12 ⟨rfl, hb12⟩
    have TF := L8.out.next hb12
    clear hb12 le
    cases hm : mayE ⟨(x1 : Int), x2, V, x3, x4, (x5 : Int), z6, x7, x8⟩
    case false =>
      have bE := run_buildE0
      have sE := run_storeE (e := E0) rfl TF.res.blk rfl
      go_wp2_with fail
      exact bodyPost_ret (retE2 (g := w.heap.size) ⟨TF.res.blk.row (evA E0), rfl⟩ Try.results16 _ rfl) rfl ⟨by rw [hX.out, EV.out, hm]; rfl, below_setRow TF.bel (Nat.le_refl _) _⟩
    case true =>
      have sE := run_storeE OKE.d6 TF.res.blk rfl
      have le2 := run_loadE_mid (b := w.heap.size + 1) (o := 0) OKE.d6 TF.rg
      go_wp2_with fail
      exact bodyPost_ret (retE2 (g := w.heap.size) ⟨TF.res.blk.row _, OKE.d6⟩ Try.results16 _ rfl) rfl ⟨by rw [hX.out, EV.out, hm]; rfl, below_setRow TF.bel (Nat.le_refl _) _⟩
theorem etake_any (A : Option Addr) (m c : Nat) (bs : List UInt8) (z : Int) (w : World) (hb : Bytes w w.heap.size A bs) (hm : m = bs.length) (hmc : m ≤ c) (hc : c ≤ maxLen) : Calls Try.prog 16 #[.slice A m c, .int .i64 z] w fun x w' =>
    x = .returned (.tuple #[.agg (evA (takeE bs z).1), .int .i64 (takeE bs z).2.1, .int .i64 (takeE bs z).2.2]) ∧ Below w.heap.size w w' := by
  unfold takeE
  by_cases h1 : z < 0 ∨ (bs.length : Int) < z
  · rw [if_pos h1]
    have := etake_out A m c z (by rw [hm]; omega) (by omega) w
    rw [if_pos (by rw [hm]; exact h1)] at this
    exact this
  by_cases h2 : (bs.length : Int) - z < 91
  · rw [if_neg h1, if_pos h2]
    have := etake_out A m c z (by rw [hm]; omega) (by omega) w
    rw [if_neg (by rw [hm]; exact h1)] at this
    exact this
  · rw [if_neg h1, if_neg h2]
    obtain ⟨a, rfl⟩ : ∃ a : Nat, z = (a : Int) := ⟨z.toNat, by omega⟩
    have := etake_in A m c bs a w hb hm hmc hc (by omega) _ (Lib.hid rfl)
    rw [show ((a : Int)).toNat = a by omega]
    split at this
    · rename_i hy; rw [if_pos hy]; exact this
    · rename_i hy; rw [if_neg hy]; exact this
end Go.Proofs.Ytjihbjjekhncaaa
