import Derived.Test.YtjihbjjekhncaaaEvG
import Derived.Test.YtjihbjjekhncaaaOcB
import Derived.Test.YtjihbjjekhncaaaEvB
namespace Go.Proofs.Ytjihbjjekhncaaa
open Go.RowKit
/-! event: an event's bytes. -/
theorem own_far {w : World} {base : Nat} {e : TypeId} {v : Value} {bs : List UInt8} (h : OwnB w base e v bs) {p : Addr} (hp : p.block < base) (u : Value) : OwnB (w.setCell p u) base e v bs := by
  refine ⟨h.1, ?_⟩
  rcases h.2 with h0 | ⟨g, cap, cur, hv, hg, hh, hr⟩
  · exact .inl h0
  · exact .inr ⟨g, cap, cur, hv, hg, (Below.heap_setCell w p u g (by omega)).trans hh, hr⟩
theorem own_bytes' {w : World} {base : Nat} {e : TypeId} {A : Option Addr} {n c : Nat} {bs : List UInt8} (h : OwnB w base e (.slice A n c) bs) : Bytes w w.heap.size A bs := by
  obtain ⟨A2, c2, hv, hb, _⟩ := h.open_
  injection hv with h1 _ _
  rw [h1]; exact hb
theorem own_base {w : World} {B B' : Nat} {e : TypeId} {v : Value} {bs : List UInt8} (h : OwnB w B e v bs) (hB : B' ≤ B) : OwnB w B' e v bs := by
  refine ⟨h.1, ?_⟩
  rcases h.2 with h0 | ⟨g, cap, cur, hv, hg, hr⟩
  · exact .inl h0
  · exact .inr ⟨g, cap, cur, hv, by omega, hr⟩
def wrL (e : Ev) (A : Option Addr) (n c : Nat) : List Value := evL e ++ [.slice A n c]
def wrA (e : Ev) (A : Option Addr) (n c : Nat) : Array Value := (wrL e A n c).toArray
theorem wrA_size {e : Ev} (h : e.d.length = 6) (A : Option Addr) (n c : Nat) : (wrA e A n c).size = 15 := by simp [wrA, wrL, evL_len h]
theorem wrA_one (e : Ev) (A : Option Addr) (n c : Nat) : (wrA e A n c).all (·.oneCell') = true := by
  have := evA_one e
  unfold wrA wrL
  unfold evA at this
  rw [List.all_toArray] at this ⊢
  rw [List.all_append, this]; rfl
theorem wrA_set {e : Ev} (h : e.d.length = 6) (A A' : Option Addr) (n c n' c' : Nat) : (wrA e A n c).setIfInBounds 14 (.slice A' n' c') = wrA e A' n' c' := by
  unfold wrA wrL
  rw [List.setIfInBounds_toArray, List.set_append_right _ _ (by rw [evL_len h]; omega), evL_len h]
  rfl
theorem wrA_at {e : Ev} (h : e.d.length = 6) (A : Option Addr) (n c : Nat) : (wrA e A n c)[14]? = some (.slice A n c) := by
  unfold wrA wrL
  rw [List.getElem?_toArray, List.getElem?_append_right (by rw [evL_len h]; omega), evL_len h]
  rfl
theorem wr_rg {W : World} {g : Nat} {t : TypeId} {e : Ev} {A : Option Addr} {n c : Nat} (h : Blk W g t (wrA e A n c)) : W.rangeAt g 0 (evL e) := fun j v hj => by
  rw [Nat.zero_add, h.cell]
  unfold wrA wrL
  have hl : j < (evL e).length := by
    rcases Nat.lt_or_ge j (evL e).length with h | h
    · exact h
    · rw [List.getElem?_eq_none h] at hj; cases hj
  rw [List.getElem?_toArray, List.getElem?_append_left hl]; exact hj
/-- a writer, with the bytes that it has put. -/
structure WB (w W : World) (g : Nat) (e : Ev) (A : Option Addr) (n c : Nat) (bs : List UInt8) : Prop where
  blk : Blk W g 82 (wrA e A n c)
  own : OwnB W (g + 1) 5 (.slice A n c) bs
  len : n = bs.length
  bel : Below g w W
section
variable {w W W' : World} {g : Nat} {e : Ev} {A : Option Addr} {n c : Nat} {bs : List UInt8}
theorem WB.next (h : WB w W g e A n c bs) (hb : Below W.heap.size W W') : WB w W' g e A n c bs := ⟨h.blk.below hb h.blk.lt, own_below h.own hb, h.len, h.bel.trans (hb.mono (Nat.le_of_lt h.blk.lt))⟩
theorem WB.o (h : WB w W g e A n c bs) : W.cell? ⟨g, 0, none⟩ = some (.int .i64 e.o) := rg_o (wr_rg h.blk)
theorem WB.s (h : WB w W g e A n c bs) : W.cell? ⟨g, 1, none⟩ = some (.int .u64 (e.s : Int)) := rg_s (wr_rg h.blk)
end
def storeW (p v : Value) : Sem Unit := Instr.storeAt 82 p v
def allocW : Sem Value := Instr.alloc 82 true (.tuple #[])
def buildW (v : Value) : Sem Value := Instr.build 82 #[(0, v)]
theorem exec_storeW (ρ : Operand → Value) (dst : Option Tmp) (x y : Operand) (ty : TypeId) (pos : String) (after : Array Edge) (guard : Option (Nat × Bool)) :
    execOp ρ ⟨dst, .store 82 x y, ty, pos, after, guard⟩ = (do storeW (ρ x) (ρ y); pure .skip) := rfl
theorem exec_allocW (ρ : Operand → Value) (dst : Option Tmp) (ty : TypeId) (pos : String) (after : Array Edge) (guard : Option (Nat × Bool)) :
    execOp ρ ⟨dst, .alloc 82, ty, pos, after, guard⟩ = (do pure (.value (← allocW))) := rfl
theorem exec_buildW (ρ : Operand → Value) (dst : Option Tmp) (x : Operand) (ty : TypeId) (pos : String) (after : Array Edge) (guard : Option (Nat × Bool)) :
    execOp ρ ⟨dst, .build 82 #[(0, x)], ty, pos, after, guard⟩ = (do pure (.value (← buildW (ρ x)))) := by unfold execOp buildW; simp
theorem infoW : (Try.prog.info? 82).map (·.size) = some 15 := by kernel_rfl
theorem run_allocW (W : World) : allocW.run Try.prog W = .ok (.pointer (some ⟨W.heap.size, 0, none⟩)) (W.alloc (.cells (wrA E0 none 0 0) 82)) := by
  unfold allocW
  go_simp
  rfl
theorem run_buildW {e : Ev} (h : e.d.length = 6) (W : World) : (buildW (.agg (evA e))).run Try.prog W = .ok (.agg (wrA e none 0 0)) W := by
  obtain ⟨o, s, d, k, n, t, a, r, f⟩ := e
  obtain ⟨x0, x1, x2, x3, x4, x5, rfl⟩ := six h
  unfold buildW
  simp only [evA, evL, vecL, List.map, List.cons_append, List.nil_append]
  go_simp
  rfl
theorem run_storeW_new {e : Ev} (h : e.d.length = 6) (W : World) : (storeW (.pointer (some ⟨W.heap.size, 0, none⟩)) (.agg (wrA e none 0 0))).run Try.prog (W.alloc (.cells (wrA E0 none 0 0) 82)) = .ok () (W.alloc (.cells (wrA e none 0 0) 82)) := by
  have h1 : (wrA E0 none 0 0).size = (wrA e none 0 0).size := by rw [wrA_size h]; rfl
  have hi : (Try.prog.info? 82).map (·.size) = some (wrA e none 0 0).size := by rw [wrA_size h]; exact infoW
  have := run_storeVar_row (W.alloc (.cells (wrA E0 none 0 0) 82)) W.heap.size 82 82 (wrA E0 none 0 0) (wrA e none 0 0) (heap_alloc_new W _) hi h1 (wrA_one e none 0 0)
  unfold storeW Instr.storeAt
  simp only [Instr.sureAddr, Sem.run_bind, Sem.run_pure, Result.andThen_ok, this]
  rw [setRow_new W W.heap.size rfl]
attribute [local go_sem ↓] exec_loadE exec_storeE exec_allocE exec_buildE exec_loadV exec_storeW exec_allocW exec_buildW
set_option maxRecDepth 100000 in
theorem wput_any (k : Nat) (hk : Size k) (w0 w : World) (g : Nat) (e : Ev) (d6 : e.d.length = 6) (A : Option Addr) (m c : Nat) (bs : List UInt8) (h : WB w0 w g e A m c bs) (z : Int) (n : Nat) (hz : z = (n : Int)) (hn : n ≤ top k) (hn2 : n ≤ 18446744073709551615) (hl : bs.length ≤ 1000) :
    Calls Try.prog 62 #[.pointer (some ⟨g, 0, none⟩), .int .u64 z, .int .i64 (k : Int)] w fun x w' => x = .returned (.tuple #[]) ∧ ∃ A' m' c', WB w0 w' g e A' m' c' (bs ++ be k n) := by
  subst hz
  have hk8 : k ≤ 8 := by rcases hk with rfl | rfl | rfl | rfl <;> omega
  have H := Lib.hid h
  have C := Lib.hid (put_ok k hk none 0 0 [] n w ⟨by simp [bv], fun h => absurd h (by simp)⟩ rfl (by simp) hn hn2)
  clear h hk hn
  go_enter Try.func62, Try.ntmps62
  go_wp2_with fail
  refine C.out.mono ?_
  rintro _ w1 ⟨A1, m1, c1, rfl, hm1, ho1, hb1⟩
  have H1 := Lib.hid (H.out.next hb1)
  have HM := Lib.hid hm1
  have hb : Bytes w1 w1.heap.size A1 (be k n) := by
    have := own_bytes' ho1
    exact this
  have c14 := H1.out.blk.cell 14
  rw [wrA_at d6] at c14
  have hbl : (be k n).length = k := be_len k n
  clear ho1 hm1 hb1
  go_wp2_with (at_builtin; refine wpList_ap2 rfl _ _ rfl rfl (g + 1) (.slice A m c) bs (be k n) (bs ++ be k n) w1.heap.size A1 m1 c1 rfl rfl (by have := HM.out; simpa using this) rfl H1.out.own hb (by omega) w1 (Below.refl _ _) H1.out.blk.lt ?_; intro A2 c2 n2 W2 e2 h2 hB2 hl2 hbel2 hs2 hg2; clear hB2 hg2; have bk2 := H1.out.blk.below hbel2 (Nat.lt_succ_self g); have cc2 := bk2.cell 14; rw [wrA_at d6] at cc2; have ff2 := bk2.frozen 14; have BK2 := Lib.hid bk2; clear bk2)
  go_end0
  have B2 := BK2.out.set_ 14 (.slice A2 n2 c2)
  rw [wrA_set d6] at B2
  exact ⟨rfl, A2, n2, c2, B2, own_far h2 (Nat.lt_succ_self g) _, e2.out, (H1.out.bel.trans (hbel2.mono (Nat.le_succ g))).setCell (p := ⟨g, 14, none⟩) (Nat.le_refl _) _⟩
end Go.Proofs.Ytjihbjjekhncaaa
