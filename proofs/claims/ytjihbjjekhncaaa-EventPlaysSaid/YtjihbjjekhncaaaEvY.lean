import Derived.Test.YtjihbjjekhncaaaEvX
import Derived.Deep.RegionHeld3
namespace Go.Proofs.Ytjihbjjekhncaaa
open Go.RowKit
/-! events in blocks of their own; the chapter's example. -/
structure Es (w W : World) (l : List (Nat × Ev)) : Prop where
  blk : ∀ p ∈ l, EB W p.1 p.2
  bel : Below w.heap.size w W
section
variable {w W W' : World} {l : List (Nat × Ev)}
theorem Es.nil (w : World) : Es w w [] := ⟨(fun p hp => by cases hp), Below.refl _ _⟩
theorem Es.next (h : Es w W l) (hb : Below W.heap.size W W') : Es w W' l := ⟨fun p hp => (h.blk p hp).after hb, h.bel.trans (hb.mono h.bel.size)⟩
theorem Es.alloc (h : Es w W l) (o : Obj) : Es w (W.alloc o) l := h.next ((Below.refl _ _).alloc (Nat.le_refl _) o)
theorem Es.drew (h : Es w W l) : Es w W.drew l := ⟨fun p hp => (h.blk p hp).drew, h.bel.drew⟩
theorem Es.drewN (h : Es w W l) (n : Nat) : Es w (W.drewN n) l := ⟨fun p hp => (h.blk p hp).drewN n, Below.drewM h.bel n⟩
theorem Es.new (h : Es w W l) {e : Ev} (he : e.d.length = 6) (g : Nat) (hg : W.heap.size = g) : Es w (W.alloc (.cells (evA e) 26)) (l ++ [(g, e)]) := by
  refine ⟨fun p hp => ?_, h.bel.alloc h.bel.size _⟩
  rcases List.mem_append.1 hp with hp | hp
  · exact (h.blk p hp).alloc _
  · rw [List.mem_singleton.1 hp]; subst hg; exact EB.new W he
theorem Es.nth (h : Es w W l) (i : Nat) {g : Nat} {e : Ev} (hi : l[i]? = some (g, e)) : EB W g e := h.blk _ (List.mem_of_getElem? hi)
theorem Es.load (h : Es w W l) (i : Nat) {g : Nat} {e : Ev} (hi : l[i]? = some (g, e)) : (loadE (.pointer (some ⟨g, 0, none⟩))).run Try.prog W = .ok (.agg (evA e)) W := (h.nth i hi).load
end
theorem own_cap {w : World} {base : Nat} {e : TypeId} {A : Option Addr} {n c : Nat} {bs : List UInt8} (h : OwnB w base e (.slice A n c) bs) : n ≤ c ∧ c ≤ maxLen := by
  rcases h.2 with ⟨hv, hn⟩ | ⟨g, cap, cur, hv, hg, hh, hc, hm, hz, ht⟩
  · injection hv with _ h1 h2; subst h1 h2; exact ⟨Nat.le_refl _, by decide⟩
  · injection hv with _ h1 h2; subst h1 h2; exact ⟨hc, hm⟩
/-- bytes that stand in memory. -/
theorem str_at {W : World} {B : Nat} {A : Option Addr} {n c : Nat} {bs : List UInt8} (hr : Bytes W B A bs) (hn : n = bs.length) : (convert 27 9 (.slice A n c)).run Try.prog W = .ok (.string (strB bs)) W := by
  subst hn; exact str_any W B A c bs hr
def e1 : Ev := ⟨1, 1, Z6, 1, 0, 0, 5, 0, 0⟩
def e2 : Ev := ⟨1, 1, Z6, 1, 0, 0, 5, 1, 0⟩
theorem e1_ok : e1.ok := ⟨rfl, rfl, rfl, rfl, by decide, by decide, by decide, by decide, by decide, by decide⟩
theorem e2_ok : e2.ok := ⟨rfl, rfl, rfl, rfl, by decide, by decide, by decide, by decide, by decide, by decide⟩
theorem e1_may : mayE e1 = true := by decide +kernel
theorem e2_may : mayE e2 = false := by decide +kernel
theorem e1_id : idE e1 = 1099511627777 := by decide +kernel
theorem e1_nine : (evB e1).take 9 = [1, 0, 0, 0, 0, 0, 0, 0, 1] := by decide +kernel
theorem e12 : (evA e1).setIfInBounds 12 (.int .u64 1) = evA e2 := rfl
theorem run_build_e1 (W : World) : (buildE #[(0, .int .i64 1), (1, .int .u64 1), (3, .int .u8 1), (6, .int .i64 5)]).run Try.prog W = .ok (.agg (evA e1)) W := by
  unfold buildE
  go_simp
  rfl
attribute [local go_sem ↓] exec_loadE exec_storeE exec_allocE exec_buildE
set_option maxRecDepth 100000 in
set_option maxHeartbeats 1000000 in
theorem evworks_any (w : World) : Calls Try.prog 15 #[] w fun x w' => x = .returned (.bool true) ∧ Below w.heap.size w w' := by
  have V2 : Es w ((w.alloc (.cells (evA e1) 26)).alloc (.cells (evA e2) 26)) [(w.heap.size, e1), (w.heap.size + 1, e2)] := ((Es.nil w).new e1_ok.d6 w.heap.size rfl).new e2_ok.d6 _ (by simp)
  have V1 : Es w (w.alloc (.cells (evA e1) 26)) [(w.heap.size, e1)] := (Es.nil w).new e1_ok.d6 w.heap.size rfl
  have aE := run_allocE
  have bE := run_build_e1
  have s1 := run_storeE_new e1_ok.d6 w
  have s2 := run_storeE_new e1_ok.d6 (w.alloc (.cells (evA e1) 26))
  rw [show (w.alloc (.cells (evA e1) 26)).heap.size = w.heap.size + 1 by simp] at s2
  have l1 := V1.load 0 rfl
  have l2 := V2.load 0 rfl
  have h12 := e12
  have c12 : ((w.alloc (.cells (evA e1) 26)).alloc (.cells (evA e1) 26)).cell? ⟨w.heap.size + 1, 12, none⟩ = some (.int .u64 0) := by
    have h : EB ((w.alloc (.cells (evA e1) 26)).alloc (.cells (evA e1) 26)) (w.heap.size + 1) e1 := by
      have := EB.new (w.alloc (.cells (evA e1) 26)) (e := e1) rfl
      rwa [show (w.alloc (.cells (evA e1) 26)).heap.size = w.heap.size + 1 by simp] at this
    exact h.r
  have HV := Lib.hid V2
  have P1 := Lib.hid (eput_yes e1 e1_ok e1_may)
  clear V1 V2
  go_enter Try.func15, Try.ntmps15
  go_wp2_with fail
  refine (P1.out _).mono ?_
  rintro _ w3 ⟨A, n, c, rfl, hn, ho, hb⟩
  have V3 := HV.out.next hb
  have cp := own_cap ho
  have hby := own_bytes' ho
  rw [evB_len e1_ok.d6] at hn
  have C := Lib.hid (etake_any A n c (evB e1) 0 w3 hby (by rw [hn, evB_len e1_ok.d6]) cp.1 cp.2)
  rw [takeE_put e1_ok e1_may] at C
  have HB := Lib.hid hby
  have HC := Lib.hid cp
  clear hb ho l1 l2 hby cp P1 HV
  subst hn
  go_wp2_with fail
  refine (C.out).mono ?_
  rintro _ w4 ⟨rfl, hb⟩
  have V4 : Es w (w4.alloc (.cells (evA e1) 26)) [(w.heap.size, e1), (w.heap.size + 1, e2), (w4.heap.size, e1)] := (V3.next hb).new e1_ok.d6 _ rfl
  have B4 := Lib.hid ((HB.out.below hb).more hb.size)
  have s4 := run_storeE_new e1_ok.d6 w4
  have l1 := V4.load 0 rfl
  have M1 := Lib.hid (emay_any e1 e1_ok)
  rw [e1_may] at M1
  have HV4 := Lib.hid V4
  clear hb V3 V4 C
  go_wp2_with fail
  refine (M1.out _).mono ?_
  rintro _ w5 ⟨rfl, hb⟩
  have V5 := HV4.out.next hb
  have l2 := V5.load 1 rfl
  have M2 := Lib.hid (emay_any e2 e2_ok)
  rw [e2_may] at M2
  have B5 := Lib.hid ((((Reads.alloc B4.out (Nat.le_refl _) (.cells (evA e1) 26)).more (B' := (w4.alloc (.cells (evA e1) 26)).heap.size) (by simp)).below hb).more hb.size)
  have HV5 := Lib.hid V5
  clear hb V5 HV4 l1 s4 B4
  go_wp2_with fail
  refine (M2.out _).mono ?_
  rintro _ w6 ⟨rfl, hb⟩
  have V6 := HV5.out.next hb
  have l1 := V6.load 0 rfl
  have l3 := V6.load 2 rfl
  have st : (convert 27 9 (.slice A 9 c)).run Try.prog w6 = .ok (.string (strB [1, 0, 0, 0, 0, 0, 0, 0, 1])) w6 := by
    have := str_at (c := c) (n := 9) (bytes_take ((B5.out.below hb).more hb.size) 9 (by rw [evB_len e1_ok.d6]; omega)) (by rw [e1_nine]; rfl)
    rwa [e1_nine] at this
  have q0 : ((strB [1, 0, 0, 0, 0, 0, 0, 0, 1]).toList == [1, 0, 0, 0, 0, 0, 0, 0, 1]) = true := by decide +kernel
  have q9 : (9 : Int) ≤ (c : Int) := by have := HC.out; omega
  have qe : ∀ W, (Op.equalIn 10000 26 (.agg (evA e1)) (.agg (evA e1))).run Try.prog W = .ok true W := ev_same e1_ok
  have D1 := Lib.hid (eid_any e1 e1_ok.d6 e1_ok.s)
  rw [show (if regE e1.o = true then (e1.o * 1099511627776 + (e1.s : Int)) % 18446744073709551616 else 0) = 1099511627777 from e1_id] at D1
  have HV6 := Lib.hid V6
  clear hb V6 HV5 l2
  go_wp2_with fail
  refine (D1.out _).mono ?_
  rintro _ w7 ⟨rfl, hb⟩
  have V7 := HV6.out.next hb
  have l2 := V7.load 1 rfl
  have P2 := Lib.hid (eput_no e2 e2_ok e2_may)
  have HV7 := Lib.hid V7
  clear hb V7 HV6 l1 l3 st q0
  go_wp2_with fail
  refine (P2.out _).mono ?_
  rintro _ w8 ⟨rfl, hb⟩
  have V8 := HV7.out.next hb
  clear hb
  go_wp2_with fail
  go_ret
  exact ⟨rfl, V8.bel⟩
end Go.Proofs.Ytjihbjjekhncaaa
