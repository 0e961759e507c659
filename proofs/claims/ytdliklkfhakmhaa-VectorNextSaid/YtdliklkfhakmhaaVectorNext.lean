/-
  For every vector and every number of a region: what comes next is not known, and with it that is known, and all that was; no further conditions.
-/
import Derived.Test.YtdliklkfhakmhaaRows
import Derived.WalkKit
import Derived.ProofKit
import Derived.OpenShut
import Derived.ShutString
import Derived.ChangeOld
import Derived.Below
import Derived.Test.YtdliklkfhakmhaaVecO
import Derived.Test.YtdliklkfhakmhaaVecW
namespace Go.Proofs.Ytdliklkfhakmhaa.vectorNext
open Go.ChangeShapes Go.WideShapes Go.ChangeAt Go.RowKit
open Go.ChangeMaps (open_string shut_string)
set_option linter.unusedVariables false

theorem own : ownKnob Try.prog.godebug = none := by kernel_rfl
theorem laidOut : laidOutB Try.prog = true := by kernel_rfl

theorem less_set {L : List Nat} (h : L.length = 6) (k : Nat) (hk : k < L.length) (x : Nat) (hx : L[k] ≤ x) : lessV L (L.set k x) = true := by
  obtain ⟨a, b, c, d, e, f, rfl⟩ := six h
  match k, hk with
  | 0, _ | 1, _ | 2, _ | 3, _ | 4, _ | 5, _ => simp [lessV, lessN, show List.range 6 = [0, 1, 2, 3, 4, 5] from rfl] at hx ⊢; omega
theorem not_less_set {L : List Nat} (h : L.length = 6) (k : Nat) (hk : k < L.length) (x : Nat) (hx : L[k] < x) : lessV (L.set k x) L = false := by
  obtain ⟨a, b, c, d, e, f, rfl⟩ := six h
  match k, hk with
  | 0, _ | 1, _ | 2, _ | 3, _ | 4, _ | 5, _ => simp [lessV, lessN, show List.range 6 = [0, 1, 2, 3, 4, 5] from rfl] at hx ⊢; omega
theorem lack_set {L : List Nat} (h : L.length = 6) (k : Nat) (hk : k < L.length) : lackV L (L.set k (L[k] + 1)) = 1 := by
  obtain ⟨a, b, c, d, e, f, rfl⟩ := six h
  match k, hk with
  | 0, _ | 1, _ | 2, _ | 3, _ | 4, _ | 5, _ => simp [lackV, lackS, lackN]
theorem has_not {L : List Nat} (k : Nat) (hk : k < L.length) : hasV L k (L[k] + 1) = false := by
  unfold hasV; rw [List.getElem?_eq_getElem hk]; simp
theorem has_set {L : List Nat} (k : Nat) (hk : k < L.length) : hasV (L.set k (L[k] + 1)) k (L[k] + 1) = true := by
  unfold hasV; simp [hk]

set_option maxRecDepth 100000 in
set_option maxHeartbeats 4000000 in
theorem walk (L0 : List Nat) (a1 : Int) (w : World) (w0 : L0.length = 6) (u0 : ∀ x ∈ L0, x ≤ 18446744073709551615) (w1 : (Lit.int .i64 a1).wf = true) :
    Calls Try.prog 6 #[.agg (vecA L0), .int .i64 a1] w fun e w' => e = .returned (.bool true) ∧ Below w.heap.size w w' := by
  have V1 := (Vs.nil w).new L0 _ rfl
  have W0 := Lib.hid w0
  clear w0 w1
  rcases reg_cases a1 with ⟨k, hk, rfl⟩ | hz
  · have hk' : k < L0.length := by rw [W0.out]; exact hk
    by_cases hlt : L0[k] < 1099511627776
    · obtain ⟨x, hx⟩ : ∃ x, Hid (x = L0[k] + 1) := ⟨_, Lib.hid rfl⟩
      obtain ⟨M, hM⟩ : ∃ M, Hid (M = L0.set k x) := ⟨_, Lib.hid rfl⟩
      have hM6 : Hid (M.length = 6) := by show _ = _; rw [hM.out, List.length_set]; exact W0.out
      have hxs : x ≤ 1099511627776 := by have := hx.out; omega
      have f1 : Hid (hasV L0 k x = false) := by show _ = _; rw [hx.out]; exact has_not k hk'
      have f2 : Hid (hasV M k x = true) := by show _ = _; rw [hM.out, hx.out]; exact has_set k hk'
      have f3 : Hid (lessV L0 M = true) := by show _ = _; rw [hM.out, hx.out]; exact less_set W0.out k hk' _ (by omega)
      have f4 : Hid (lessV M L0 = false) := by show _ = _; rw [hM.out, hx.out]; exact not_less_set W0.out k hk' _ (by omega)
      have f5 : Hid (lackV L0 M = 1) := by show _ = _; rw [hM.out, hx.out]; exact lack_set W0.out k hk'
      have f6 : ∀ n ∈ M, n ≤ 18446744073709551615 := fun n hn => by
        rw [hM.out] at hn
        rcases List.mem_or_eq_of_mem_set hn with h | h
        · exact u0 n h
        · omega
      have F6 := Lib.hid f6
      have N1 : Hid (∀ W, Calls Try.prog 16 #[.agg (vecA L0), .int .i64 ((k : Int) + 1)] W fun e w' => e = .returned (.tuple #[.int .u64 (x : Int), .int .i64 0]) ∧ Below W.heap.size W w') := by
        intro W
        rw [hx.out]
        exact next_yes L0 W0.out k hk' W hlt
      have N2 : Hid (∀ W, Calls Try.prog 18 #[.agg (vecA L0), .int .i64 ((k : Int) + 1), .int .u64 (x : Int)] W fun e w' => e = .returned (.tuple #[.agg (vecA M), .int .i64 0]) ∧ Below W.heap.size W w') := by
        intro W
        rw [hM.out]
        exact with_yes L0 W0.out k hk x hxs W
      clear f6 u0 hxs hlt hx hM
      have b0 := V1.nth 0 rfl
      go_enter Try.func6, Try.ntmps6
      go_wp2_with (refine wpList_load_any rfl 24 _ rfl _ rfl 24 (vecA L0) (0, 0) _ b0 Try.underlying24 rfl (infoV_of L0 W0.out) ?_)
      (refine (N1.out _).mono ?_)
      rintro e w2 ⟨rfl, hb⟩
      have V2 := V1.next hb
      clear b0 V1 hb
      have b0 := V2.nth 0 rfl
      go_wp2_with (refine wpList_load_any rfl 24 _ rfl _ rfl 24 (vecA L0) (0, 0) _ b0 Try.underlying24 rfl (infoV_of L0 W0.out) ?_)
      (refine (N2.out _).mono ?_)
      rintro e w3 ⟨rfl, hb⟩
      have V3 := V2.next hb
      clear b0 V2 hb
      have V4 := V3.new M _ rfl
      have g0 := heap_alloc_new w3 (.cells (vecA Z6) 24)
      have HSET := Lib.hid (setRow_new w3 w3.heap.size rfl (vecA Z6) (vecA M) 24)
      generalize w3.alloc (.cells (vecA M) 24) = w4 at V4 HSET
      have b0 := V4.nth 0 rfl
      have b1 := V4.nth 1 rfl
      go_wp2_with (first | (refine wpList_store_at rfl 24 _ _ rfl _ (vecA M) rfl rfl 24 (vecA Z6) g0 (infoV_of M hM6.out) (vecA_six hM6.out) (vecA_one M) HSET.out ?_) | (refine wpList_load_any rfl 24 _ rfl _ rfl 24 (vecA L0) (0, 0) _ b0 Try.underlying24 rfl (infoV_of L0 W0.out) ?_))
      clear g0 HSET V3
      (refine (has_yes L0 W0.out k hk' x _).mono ?_)
      rintro e w5 ⟨rfl, hb⟩
      rw [f1.out]
      have V5 := V4.next hb
      clear b0 b1 V4 hb
      have b0 := V5.nth 0 rfl
      have b1 := V5.nth 1 rfl
      go_wp2_with (first | (refine wpList_load_any rfl 24 _ rfl _ rfl 24 (vecA L0) (0, 0) _ b0 Try.underlying24 rfl (infoV_of L0 W0.out) ?_) | (refine wpList_load_any rfl 24 _ rfl _ rfl 24 (vecA M) (0, 0) _ b1 Try.underlying24 rfl (infoV_of M hM6.out) ?_))
      (refine (has_yes M hM6.out k (by rw [hM6.out]; exact hk) x _).mono ?_)
      rintro e w6 ⟨rfl, hb⟩
      rw [f2.out]
      have V6 := V5.next hb
      clear b0 b1 V5 hb
      have b0 := V6.nth 0 rfl
      have b1 := V6.nth 1 rfl
      go_wp2_with (first | (refine wpList_load_any rfl 24 _ rfl _ rfl 24 (vecA L0) (0, 0) _ b0 Try.underlying24 rfl (infoV_of L0 W0.out) ?_) | (refine wpList_load_any rfl 24 _ rfl _ rfl 24 (vecA M) (0, 0) _ b1 Try.underlying24 rfl (infoV_of M hM6.out) ?_))
      (refine (less_any L0 M W0.out hM6.out _).mono ?_)
      rintro e w7 ⟨rfl, hb⟩
      rw [f3.out]
      have V7 := V6.next hb
      clear b0 b1 V6 hb
      have b0 := V7.nth 0 rfl
      have b1 := V7.nth 1 rfl
      go_wp2_with (first | (refine wpList_load_any rfl 24 _ rfl _ rfl 24 (vecA L0) (0, 0) _ b0 Try.underlying24 rfl (infoV_of L0 W0.out) ?_) | (refine wpList_load_any rfl 24 _ rfl _ rfl 24 (vecA M) (0, 0) _ b1 Try.underlying24 rfl (infoV_of M hM6.out) ?_))
      (refine (less_any M L0 hM6.out W0.out _).mono ?_)
      rintro e w8 ⟨rfl, hb⟩
      rw [f4.out]
      have V8 := V7.next hb
      clear b0 b1 V7 hb
      have b0 := V8.nth 0 rfl
      have b1 := V8.nth 1 rfl
      go_wp2_with (first | (refine wpList_load_any rfl 24 _ rfl _ rfl 24 (vecA L0) (0, 0) _ b0 Try.underlying24 rfl (infoV_of L0 W0.out) ?_) | (refine wpList_load_any rfl 24 _ rfl _ rfl 24 (vecA M) (0, 0) _ b1 Try.underlying24 rfl (infoV_of M hM6.out) ?_))
      (refine (lack_any L0 M W0.out hM6.out F6.out _).mono ?_)
      rintro e w9 ⟨rfl, hb⟩
      rw [f5.out]
      have V9 := V8.next hb
      clear b0 b1 V8 hb
      go_wp2_with fail
      (refine (vworks_any _).mono ?_)
      rintro e w10 ⟨rfl, hb⟩
      have hbel := (V9.next hb).bel
      clear V9 hb
      go_wp2_with fail
      go_ret
      exact ⟨rfl, hbel⟩
    · have N1 : Hid (∀ W, Calls Try.prog 16 #[.agg (vecA L0), .int .i64 ((k : Int) + 1)] W fun e w' => e = .returned (.tuple #[.int .u64 0, .int .i64 6]) ∧ Below W.heap.size W w') := fun W => next_many L0 W0.out k hk' W hlt
      have b0 := V1.nth 0 rfl
      clear hlt
      go_enter Try.func6, Try.ntmps6
      go_wp2_with (refine wpList_load_any rfl 24 _ rfl _ rfl 24 (vecA L0) (0, 0) _ b0 Try.underlying24 rfl (infoV_of L0 W0.out) ?_)
      (refine (N1.out _).mono ?_)
      rintro e w2 ⟨rfl, hb⟩
      have V2 := V1.next hb
      clear b0 V1 hb
      go_wp2_with fail
      (refine (vworks_any _).mono ?_)
      rintro e w3 ⟨rfl, hb⟩
      have hbel := (V2.next hb).bel
      clear V2 hb
      go_wp2_with fail
      go_ret
      exact ⟨rfl, hbel⟩
  · have N1 : Hid (∀ W, Calls Try.prog 16 #[.agg (vecA L0), .int .i64 a1] W fun e w' => e = .returned (.tuple #[.int .u64 0, .int .i64 10]) ∧ Below W.heap.size W w') := fun W => next_no L0 a1 hz W
    have b0 := V1.nth 0 rfl
    clear hz
    go_enter Try.func6, Try.ntmps6
    go_wp2_with (refine wpList_load_any rfl 24 _ rfl _ rfl 24 (vecA L0) (0, 0) _ b0 Try.underlying24 rfl (infoV_of L0 W0.out) ?_)
    (refine (N1.out _).mono ?_)
    rintro e w2 ⟨rfl, hb⟩
    have V2 := V1.next hb
    clear b0 V1 hb
    go_wp2_with fail
    (refine (vworks_any _).mono ?_)
    rintro e w3 ⟨rfl, hb⟩
    have hbel := (V2.next hb).bel
    clear V2 hb
    go_wp2_with fail
    go_ret
    exact ⟨rfl, hbel⟩

set_option maxRecDepth 100000 in
theorem lifted (os : Os) (started : os.Started) (H : Type) (enc : TypeId × Value → H) :
    ReturnsInHanded {} Try.checked os 6 .any (Rows.vectorNextSpec.pre6 enc Try.prog Try.f6 Rows.vectorNextRow.domain false) (Rows.vectorNextSpec.post enc Try.prog Try.f6 false true false false) := by
  refine returnsInHanded_of_change (C := Try.checked) own started (by kernel_rfl) Try.func6
    (ChangeSpec.witness6 (enc := enc) (C := Try.checked) false ⟨#[], #[.agg #[.int .u64 0, .int .u64 0, .int .u64 0, .int .u64 0, .int .u64 0, .int .u64 0], .int .i64 0], []⟩ 8 (by kernel_rfl) (by kernel_rfl) (by kernel_rfl) (by kernel_rfl)) ?_
  intro W base args ds gs before hval0 hW hcnd _
  have hval : ∀ (j : Nat) t v, Try.f6.params[j]? = some t → args[j]? = some v → Value.okWide Try.prog W .any base t v := hval0
  have hW' := hW
  obtain ⟨p, q, hA0, hV, rfl, hfz, hnd⟩ := hW
  have hA : DataW.TrodAll enc Try.prog W 0 (fun _ => true) true Try.f6.params.toList args.toList ds p := hA0
  rw [Try.params6] at hA hval
  obtain ⟨v0, vs0, d0, ds0, p0, q0, hargs, rfl, rfl, h0, r0⟩ := trodAll_cons hA
  obtain ⟨v1, vs1, d1, ds1, p1, q1, rfl, rfl, rfl, h1, r1⟩ := trodAll_cons r0
  obtain ⟨rfl, rfl, rfl⟩ := trodAll_nil r1
  obtain rfl : args = #[v0, v1] := by cases args; simp_all
  obtain ⟨rfl, rfl⟩ := trodVars_none hV
  have k0 := h0
  have lt0 : ∀ x ∈ p0, x.block < W.heap.size := by obtain ⟨m, hm⟩ := k0; exact DataW.trod_lt m _ _ _ hm
  obtain ⟨L0, rfl, w0, u0⟩ := open_vec (hval 0 24 v0 rfl rfl) h0
  obtain ⟨a1, rfl, rfl, rfl, w1⟩ := open_int Try.underlying3 (hval 1 3 v1 rfl rfl) h1
  clear hA0 hval0
  refine (walk L0 a1 W w0 u0 w1).mono fun e W' ⟨he, bel⟩ => ?_
  subst he
  exact ⟨_, rfl, _, _, _, [], _, [], hW', trodAll_mk1 (shut_bool Try.underlying4 _), (trodAll_cons_mk (Below.trod laidOut (by kernel_rfl) (of_decide_eq_true (by kernel_rfl)) k0 bel lt0) (trodAll_cons_mk (shut_int Try.underlying3 w1) trodAll_mk0)), rfl, bel.frame _, fun h => by cases h⟩

theorem over : Rows.vectorNextRow.holds Try.pinned (OpenSpec.ofChange Rows.vectorNextSpec) :=
  OpenClaim.holds_of_wide 6 Try.f6 rfl rfl rfl rfl rfl rfl rfl ⟨rfl, rfl, rfl, rfl, rfl⟩ rfl rfl rfl rfl rfl (by kernel_rfl) Try.func6 (by kernel_rfl)
    (of_decide_eq_true (by kernel_rfl)) (by unfold Func.isWrapper; first | (rw [if_pos (by decide +kernel)]; kernel_rfl) | (rw [if_neg (by decide +kernel)]; exact ⟨rfl, rfl⟩))
    (fun os started H enc _ => lifted os started H enc)

theorem proved : Rows.VectorNextSaid := over
#print axioms proved
end Go.Proofs.Ytdliklkfhakmhaa.vectorNext
