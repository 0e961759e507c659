/-
  CrcJoins: in whatever parts bytes come their sum is the same, and the sums of the parts make that of all. For every input, without a condition.
-/
import Derived.Test.YtbfdliogpheekaaRows
import Derived.WalkKit
import Derived.ProofKit
import Derived.OpenShut
import Derived.ShutString
import Derived.ChangeOld
import Derived.Below
import Derived.Test.YtbfdliogpheekaaCrcE
import Derived.Test.YtbfdliogpheekaaKitD
import Derived.RegionTactic
import Derived.Deep.RegionWith
namespace Go.Proofs.Ytbfdliogpheekaa.crcJoins
open Go.ChangeShapes Go.WideShapes Go.ChangeAt Go.RowKit
open Go.ChangeMaps (open_string shut_string)
set_option linter.unusedVariables false

theorem own : ownKnob Try.prog.godebug = none := by kernel_rfl
theorem laidOut : laidOutB Try.prog = true := by kernel_rfl

def flat (l : List (List UInt8)) (k : Nat) : List UInt8 := (l.take k).flatten
theorem flat_zero (l : List (List UInt8)) : flat l 0 = [] := rfl
theorem flat_succ (l : List (List UInt8)) (k : Nat) (h : k < l.length) : flat l k ++ l[k] = flat l (k + 1) := by
  unfold flat; rw [List.take_succ_eq_append_getElem h, List.flatten_append]; simp [List.flatten]
/-- the sum of the first k. -/
def st (l : List (List UInt8)) (k : Nat) : BitVec 32 := ~~~ Cm.more (~~~ 0#32) (wide (flat l k))
theorem st_zero (l : List (List UInt8)) : st l 0 = 0#32 := by
  unfold st; rw [flat_zero]; decide
theorem st_more (l : List (List UInt8)) (k : Nat) (h : k < l.length) : ~~~ Cm.more (~~~ st l k) (wide l[k]) = st l (k + 1) := by
  unfold st
  rw [BitVec.not_not, ← flat_succ l k h, show wide (flat l k ++ l[k]) = wide (flat l k) ++ wide l[k] by simp [wide], Cm.more_append]
theorem not3 (a b c : BitVec 32) : ~~~ a ^^^ ~~~ b ^^^ ~~~ c = ~~~ (a ^^^ b ^^^ c) := by
  apply BitVec.eq_of_getLsbD_eq
  intro i hi
  simp only [BitVec.getLsbD_xor, BitVec.getLsbD_not]
  cases a.getLsbD i <;> cases b.getLsbD i <;> cases c.getLsbD i <;> simp [hi]
theorem join_more (m : BitVec 32) (bs : List UInt8) :
    ~~~ Cm.steps (8 * ((bs.length : Nat) : Int).toNat) (~~~ (~~~ m)) ^^^ ~~~ Cm.steps (8 * ((bs.length : Nat) : Int).toNat) (~~~ 0#32) ^^^ ~~~ Cm.more (~~~ 0#32) (wide bs) = ~~~ Cm.more m (wide bs) := by
  rw [BitVec.not_not, not3, Int.toNat_natCast]
  congr 1
  have h := Cm.more_state (wide bs) (~~~ 0#32) (m ^^^ ~~~ 0#32)
  rw [show (~~~ 0#32 : BitVec 32) ^^^ (m ^^^ ~~~ 0#32) = m by
    rw [BitVec.xor_comm m, ← BitVec.xor_assoc]; simp, show (wide bs).length = bs.length by simp [wide], Cm.steps_xor] at h
  rw [h]
  ac_rfl
theorem st_join (l : List (List UInt8)) (k : Nat) (h : k < l.length) :
    ~~~ Cm.steps (8 * ((l[k].length : Nat) : Int).toNat) (~~~ st l k) ^^^ ~~~ Cm.steps (8 * ((l[k].length : Nat) : Int).toNat) (~~~ 0#32) ^^^ ~~~ Cm.more (~~~ 0#32) (wide l[k]) = st l (k + 1) := by
  rw [← st_more l k h]
  have := join_more (~~~ st l k) l[k]
  rw [BitVec.not_not] at this
  exact this
/-- where the loop stands behind k rounds. -/
def Joined (w : World) (l : List (List UInt8)) (k : Nat) (v : Value) (wr : World) : Prop :=
  ∃ A c, v = .slice A (flat l k).length c ∧ OwnB wr w.heap.size 5 (.slice A (flat l k).length c) (flat l k) ∧ (flat l k).length ≤ 8192 ∧ Below w.heap.size w wr
theorem sum_n (A : Option Addr) (n c : Nat) (bs : List UInt8) (w : World) (hb : Bytes w w.heap.size A bs) (hl : bs.length ≤ maxLen) (hn : n = bs.length) :
    Calls Try.prog 35 #[.slice A n c] w fun e w' => e = .returned (.int .u32 (U (~~~ Cm.more (~~~ 0#32) (wide bs)))) ∧ w = w' := by
  subst hn
  exact sum_any A c bs w hb hl

set_option maxHeartbeats 1000000 in
theorem walk (A0 : Option Addr) (b0 : List (List UInt8)) (c0 : Nat) (w : World) (w0 : Strs w w.heap.size A0 b0) (l0 : b0.length ≤ c0) (m0 : c0 ≤ maxLen) :
    Calls Try.prog 10 #[.slice A0 b0.length c0] w fun e w' => e = .returned (.bool true) ∧ Below w.heap.size w w' := by
  by_cases h40 : 40 < b0.length
  · go_enter Try.func10, Try.ntmps10
    go_wp2_with fail
    refine (works_any _).mono ?_
    rintro e w2 ⟨rfl, hb2⟩
    go_wp2_with fail
    go_ret
    exact ⟨rfl, hb2⟩
  · go_enter Try.func10, Try.ntmps10
    go_wp2_with fail
    go_loopw [3, 4, 5, 6] (fun v m j i wr => ∃ k : Nat, k ≤ b0.length ∧ i = .int .i64 k ∧ m = .int .u32 (U (st b0 k)) ∧ j = .int .u32 (U (st b0 k)) ∧ Joined w b0 k v wr) (fun _ _ _ i _ => b0.length - (intOf i).toNat)
    case atStart => exact ⟨0, by omega, rfl, by rw [st_zero]; rfl, by rw [st_zero]; rfl, none, 0, rfl, OwnB.nil_ _ _ _, by simp [flat], Below.refl _ _⟩
    case round =>
      obtain ⟨k, hk, rfl, rfl, rfl, A, c, rfl, hown, hlen, hbw⟩ := hrel
      have hsz := hbw.size
      by_cases hlt : k < b0.length
      · obtain ⟨b, off, Ai, ci, rfl, hB, hcw, hBw, hli, hmi⟩ := w0.at_ hlt
        have hc := (hbw.cell (p := ⟨b, off + k, none⟩) hB).trans hcw
        have hBi := Reads.more (Reads.below hBw hbw) hsz
        have hx1 := st_more b0 k hlt
        have hx2 := st_join b0 k hlt
        have hfs := flat_succ b0 k hlt
        generalize b0[k] = z at hc hBi hli hx1 hx2 hfs hcw hBw
        obtain ⟨s1, hs1e⟩ : ∃ s1, st b0 (k + 1) = s1 := ⟨_, rfl⟩
        rw [hs1e] at hx1 hx2
        have S1 := Lib.hid hs1e
        clear hs1e
        generalize st b0 k = s0 at hx1 hx2
        have HX1 := Lib.hid hx1
        have HX2 := Lib.hid hx2
        have HFS := Lib.hid hfs
        clear hx1 hx2 hfs
        have HCW := Lib.hid hcw
        clear hcw
        by_cases hv : 4096 < (flat b0 k).length
        · go_wp2_with (first | (go_at_call 33; refine (vast_yes _ _ _ _ hv).mono ?_; rintro e w1 ⟨rfl, rfl⟩) | (go_at_call 34; refine (works_any _).mono ?_; rintro e w4 ⟨rfl, hb4⟩))
          go_ret
          exact ⟨rfl, hbw.trans (hb4.mono hsz)⟩
        · by_cases hv2 : 4096 < z.length
          · go_wp2_with fail
            refine (vast_no _ _ _ _ hv).mono ?_
            rintro e w1 ⟨rfl, rfl⟩
            go_wp2_with (first | (go_at_call 33; refine (vast_yes _ _ _ _ hv2).mono ?_; rintro e w1 ⟨rfl, rfl⟩) | (go_at_call 34; refine (works_any _).mono ?_; rintro e w4 ⟨rfl, hb4⟩))
            go_ret
            exact ⟨rfl, hbw.trans (hb4.mono hsz)⟩
          · have hzl : z.length ≤ maxLen := by omega
            go_wp2_with fail
            refine (vast_no _ _ _ _ hv).mono ?_
            rintro e w1 ⟨rfl, rfl⟩
            go_wp2_with fail
            refine (vast_no _ _ _ _ hv2).mono ?_
            rintro e w1 ⟨rfl, rfl⟩
            have hfl : (flat b0 (k + 1)).length ≤ 8192 := by rw [← HFS.out, List.length_append]; omega
            go_wp2_with (first
              | (at_builtin; refine wpList_app rfl _ _ 22 rfl w.heap.size 5 (.slice A (flat b0 k).length c) (flat b0 k) z (flat b0 (k + 1)) wr.heap.size Ai ci rfl rfl HFS.out (app_any wr w.heap.size _ (flat b0 k) z hown wr.heap.size Ai ci hBi (by omega) hsz) w hbw (fun q hq => (World.ownsRow.lt hown q hq).1) hsz ?_; intro A1 c1 W1 hown1 hB1 hl1 hg1 hbel1 hs1; have hc1 := (hbel1.cell (p := ⟨b, off + k, none⟩) hB).trans HCW.out; have hBz := Reads.more (Reads.below hBw hbel1) hs1; clear hB1 hl1 hg1 hc hBi)
              | (go_at_call 37; refine (more_any s0 Ai ci z _ hBz hzl).mono ?_; rintro e w9 ⟨rfl, rfl⟩; rw [HX1.out]))
            go_region_with (first
              | (go_at_call 35; refine (sum_n Ai _ ci z _ (by exact hBz) hzl rfl).mono ?_; rintro e w9 ⟨rfl, rfl⟩)
              | (go_at_call 40; refine (join_any s0 _ _ _ (by omega) (by omega)).mono ?_; rintro e w9 ⟨rfl, hb9⟩))
            all_goals go_wp2
            all_goals go_roundw
            all_goals (first
              | (case rel => exact ⟨k + 1, by omega, by go_num, val_U S1.out.symm, val_U (HX2.out.trans S1.out.symm), A1, c1, rfl, own_after hown1 hb9, hfl, below_after hbel1 hs1 hb9⟩)
              | skip)
            all_goals (first | (simp [intOf]; omega) | skip)
      · obtain rfl : k = b0.length := by omega
        obtain ⟨A2, c2, hv2, hB2, hl2⟩ := hown.open_
        injection hv2 with hA hn hc
        subst hA hc
        have hst : U (~~~ Cm.more (~~~ 0#32) (wide (flat b0 b0.length))) = U (st b0 b0.length) := rfl
        generalize st b0 b0.length = sf at hst ⊢
        have HST := Lib.hid hst
        clear hst
        go_wp2_with (first
          | (go_at_call 35; refine (sum_n A _ c (flat b0 b0.length) _ hB2 hl2 rfl).mono ?_; rintro e w9 ⟨rfl, rfl⟩; rw [HST.out])
          | (go_at_call 34; refine (works_any _).mono ?_; rintro e w9 ⟨rfl, hb9⟩))
        go_ret
        exact ⟨rfl, hbw.trans (hb9.mono hsz)⟩

set_option maxRecDepth 100000 in
theorem lifted (os : Os) (started : os.Started) (H : Type) (enc : TypeId × Value → H) :
    ReturnsInHanded {} Try.checked os 10 .any (Rows.crcJoinsSpec.pre6 enc Try.prog Try.f10 Rows.crcJoinsRow.domain false) (Rows.crcJoinsSpec.post enc Try.prog Try.f10 false true false false) := by
  refine returnsInHanded_of_change (C := Try.checked) own started (by kernel_rfl) Try.func10
    (ChangeSpec.witness6 (enc := enc) (C := Try.checked) false ⟨#[], #[.slice none 0 0], []⟩ 8 (by kernel_rfl) (by kernel_rfl) (by kernel_rfl) (by kernel_rfl)) ?_
  intro W base args ds gs before hval0 hW hcnd _
  have hval : ∀ (j : Nat) t v, Try.f10.params[j]? = some t → args[j]? = some v → Value.okWide Try.prog W .any base t v := hval0
  have hW' := hW
  obtain ⟨p, q, hA0, hV, rfl, hfz, hnd⟩ := hW
  have hA : DataW.TrodAll enc Try.prog W 0 (fun _ => true) true Try.f10.params.toList args.toList ds p := hA0
  rw [Try.params10] at hA hval
  obtain ⟨v0, vs0, d0, ds0, p0, q0, hargs, rfl, rfl, h0, r0⟩ := trodAll_cons hA
  obtain ⟨rfl, rfl, rfl⟩ := trodAll_nil r0
  obtain rfl : args = #[v0] := by cases args; simp_all
  obtain ⟨rfl, rfl⟩ := trodVars_none hV
  obtain ⟨A0, n0, c0, rfl⟩ := okWide_slice Try.underlying33 (hval 0 33 v0 rfl rfl)
  have k0 := h0
  have lt0 : ∀ x ∈ p0, x.block < W.heap.size := by obtain ⟨m, hm⟩ := k0; exact DataW.trod_lt m _ _ _ hm
  obtain ⟨b0, rfl, w0, l0, m0⟩ : ∃ l : List (List UInt8), n0 = l.length ∧ Strs W W.heap.size A0 l ∧ n0 ≤ c0 ∧ c0 ≤ maxLen := by
    obtain ⟨fuel, hf⟩ := h0
    rcases Deep.open_int_rows Try.underlying33 Try.underlying22 Try.underlying5 (by kernel_rfl) (by kernel_rfl) hf with ⟨hcs, _⟩ | ⟨a, len, cap, A, L, C, Z, hcs, _, hl, hm, _, hcell⟩
    · simp [Value.cells] at hcs
      obtain ⟨rfl, rfl, rfl⟩ := hcs
      exact ⟨[], rfl, Strs.none_, Nat.le_refl _, by decide⟩
    · simp [Value.cells] at hcs
      obtain ⟨rfl, rfl, rfl⟩ := hcs
      obtain ⟨l, h1, h2⟩ := strs_of hl (fun r hr => by
        obtain ⟨x1, x2, x3, x4, x5, x6, x7⟩ := hcell r hr
        exact ⟨x1, x2, x3, x4, x5, x6, fun a' ha => (x7 a' ha).2⟩)
      exact ⟨l, h1, h2, hl, hm⟩
  clear hA0 hval0
  refine (walk A0 b0 c0 W w0 l0 m0).mono fun e W' ⟨he, bel⟩ => ?_
  subst he
  exact ⟨_, rfl, _, _, _, [], _, [], hW', trodAll_mk1 (shut_bool Try.underlying4 _), (trodAll_cons_mk (Below.trod laidOut (by kernel_rfl) (of_decide_eq_true (by kernel_rfl)) k0 bel lt0) trodAll_mk0), rfl, bel.frame _, fun h => by cases h⟩

theorem over : Rows.crcJoinsRow.holds Try.pinned (OpenSpec.ofChange Rows.crcJoinsSpec) :=
  OpenClaim.holds_of_wide 10 Try.f10 rfl rfl rfl rfl rfl rfl rfl ⟨rfl, rfl, rfl, rfl, rfl⟩ rfl rfl rfl rfl rfl (by kernel_rfl) Try.func10 (by kernel_rfl)
    (of_decide_eq_true (by kernel_rfl)) (by unfold Func.isWrapper; first | (rw [if_pos (by decide +kernel)]; kernel_rfl) | (rw [if_neg (by decide +kernel)]; exact ⟨rfl, rfl⟩))
    (fun os started H enc _ => lifted os started H enc)

theorem proved : Rows.CrcJoinsSaid := over
#print axioms proved
end Go.Proofs.Ytbfdliogpheekaa.crcJoins
