/-
  CrcRest: of any bytes, with their own sum behind them, the sum is always one and the same, and with another number behind them it is not. For every input, without a condition.
-/
import Derived.Test.YtbfdliogpheekaaRows
import Derived.WalkKit
import Derived.ProofKit
import Derived.OpenShut
import Derived.ShutString
import Derived.ChangeOld
import Derived.Below
import Derived.Test.YtbfdliogpheekaaCrcE
namespace Go.Proofs.Ytbfdliogpheekaa.crcRest
open Go.ChangeShapes Go.WideShapes Go.ChangeAt Go.RowKit
open Go.ChangeMaps (open_string shut_string)
set_option linter.unusedVariables false

theorem own : ownKnob Try.prog.godebug = none := by kernel_rfl
theorem laidOut : laidOutB Try.prog = true := by kernel_rfl

/-- the four bytes of a number, the lowest first. -/
def lb (x : BitVec 32) (k : Nat) : UInt8 := UInt8.ofNat (x >>> k).toNat
def four (x : BitVec 32) : List UInt8 := [lb x 0, lb x 8, lb x 16, lb x 24]
theorem lb_nat (x : BitVec 32) (k : Nat) : (lb x k).toNat = x.toNat / 2 ^ k % 256 := by
  unfold lb
  rw [BitVec.toNat_ushiftRight, Nat.shiftRight_eq_div_pow]
  simp
theorem lb_wide (x : BitVec 32) (k : Nat) : BitVec.ofNat 32 (lb x k).toNat = (x >>> k) &&& 255#32 := by
  apply BitVec.eq_of_toNat_eq
  have h : x.toNat / 2 ^ k % 256 < 256 := Nat.mod_lt _ (by omega)
  rw [BitVec.toNat_ofNat, BitVec.toNat_and, BitVec.toNat_ushiftRight, Nat.shiftRight_eq_div_pow, lb_nat, Nat.mod_eq_of_lt (by omega)]
  show _ = _ &&& (2 ^ 8 - 1)
  rw [Nat.and_two_pow_sub_one_eq_mod]
theorem four_wide (x : BitVec 32) : wide (four x) = [x &&& 255#32, x >>> 8 &&& 255#32, x >>> 16 &&& 255#32, x >>> 24 &&& 255#32] := by
  simp only [wide, four, List.map_cons, List.map_nil, lb_wide]
  simp
theorem lb0 (x : BitVec 32) : U x % 256 = ((lb x 0).toNat : Int) := by rw [lb_nat]; unfold U; omega
theorem lb8 (x : BitVec 32) : U x / 256 % 256 = ((lb x 8).toNat : Int) := by rw [lb_nat]; unfold U; omega
theorem lb16 (x : BitVec 32) : U x / 65536 % 256 = ((lb x 16).toNat : Int) := by rw [lb_nat]; unfold U; omega
theorem lb24 (x : BitVec 32) : U x / 16777216 % 256 = ((lb x 24).toNat : Int) := by rw [lb_nat]; unfold U; omega
attribute [local go_sem] lb0 lb8 lb16 lb24
theorem rest (s o : BitVec 32) : ~~~ Cm.more (~~~ s) (wide (four o)) = ~~~ Cm.steps 32 (~~~ s ^^^ o) := by
  rw [four_wide, Cm.more_four]
theorem own_rest (s : BitVec 32) : U (~~~ Cm.more (~~~ s) (wide (four s))) = 558161692 := by
  rw [rest, show ~~~ s ^^^ s = BitVec.allOnes 32 from by
    apply BitVec.eq_of_getLsbD_eq
    intro i hi
    rw [BitVec.getLsbD_xor, BitVec.getLsbD_not, BitVec.getLsbD_allOnes]
    cases s.getLsbD i <;> simp [hi]]
  decide +kernel
theorem not_rest (s o : BitVec 32) (h : ¬ o = s) : ¬ U (~~~ Cm.more (~~~ s) (wide (four o))) = 558161692 := by
  intro e
  rw [← own_rest s, U_inj, rest, rest] at e
  have e1 : Cm.steps 32 (~~~ s ^^^ o) = Cm.steps 32 (~~~ s ^^^ s) := by
    have := congrArg (fun x => ~~~ x) e
    simpa only [BitVec.not_not] using this
  have e2 : ~~~ s ^^^ o = ~~~ s ^^^ s := Cm.steps_inj 32 _ _ e1
  apply h
  have e3 : ~~~ s ^^^ (~~~ s ^^^ o) = ~~~ s ^^^ (~~~ s ^^^ s) := by rw [e2]
  rw [← BitVec.xor_assoc, ← BitVec.xor_assoc] at e3
  simpa using e3
theorem sum_own (bs : List UInt8) (s : BitVec 32) (h : ~~~ Cm.more (~~~ 0#32) (wide bs) = s) : U (~~~ Cm.more (~~~ 0#32) (wide (bs ++ four s))) = 558161692 := by
  rw [show wide (bs ++ four s) = wide bs ++ wide (four s) by simp [wide], Cm.more_append, show Cm.more (~~~ 0#32) (wide bs) = ~~~ s by rw [← h, BitVec.not_not]]
  exact own_rest s
theorem two_first (w : World) (xs ys : List UInt8) : Bytes ((w.alloc (.cells (bv xs).toArray 5)).alloc (.cells (bv ys).toArray 5)) ((w.alloc (.cells (bv xs).toArray 5)).alloc (.cells (bv ys).toArray 5)).heap.size (some ⟨w.heap.size, 0, none⟩) xs :=
  (Reads.alloc (bytes_const w xs 5 (0, 0)) (Nat.le_refl _) _).more (by simp)
theorem two_second (w : World) (xs ys : List UInt8) : Bytes ((w.alloc (.cells (bv xs).toArray 5)).alloc (.cells (bv ys).toArray 5)) ((w.alloc (.cells (bv xs).toArray 5)).alloc (.cells (bv ys).toArray 5)).heap.size (some ⟨w.heap.size + 1, 0, none⟩) ys := by
  have h := bytes_const (w.alloc (.cells (bv xs).toArray 5)) ys 5 (0, 0)
  simpa using h
theorem sum_n (A : Option Addr) (n c : Nat) (bs : List UInt8) (w : World) (hb : Bytes w w.heap.size A bs) (hl : bs.length ≤ maxLen) (hn : n = bs.length) :
    Calls Try.prog 35 #[.slice A n c] w fun e w' => e = .returned (.int .u32 (U (~~~ Cm.more (~~~ 0#32) (wide bs)))) ∧ w = w' := by
  subst hn
  exact sum_any A c bs w hb hl

set_option maxHeartbeats 1000000 in
theorem walk (A0 : Option Addr) (b0 : List UInt8) (c0 : Nat) (a1 : Int) (w : World) (w0 : Bytes w w.heap.size A0 b0) (l0 : b0.length ≤ c0) (m0 : c0 ≤ maxLen) (w1 : (Lit.int .u32 a1).wf = true) :
    Calls Try.prog 14 #[.slice A0 b0.length c0, .int .u32 a1] w fun e w' => e = .returned (.bool true) ∧ Below w.heap.size w w' := by
  have d1 := wf_u32 w1
  clear w1
  obtain ⟨o, rfl⟩ : ∃ o : BitVec 32, a1 = U o := ⟨_, (U_of a1 d1.1 d1.2).symm⟩
  clear d1
  by_cases hv : 4096 < b0.length
  · go_enter Try.func14, Try.ntmps14
    go_wp2_with fail
    refine (vast_yes _ _ _ _ hv).mono ?_
    rintro e w1 ⟨rfl, rfl⟩
    go_wp2_with fail
    refine (works_any _).mono ?_
    rintro e w2 ⟨rfl, hb2⟩
    go_wp2_with fail
    go_ret
    exact ⟨rfl, hb2⟩
  · have hl : b0.length ≤ maxLen := by omega
    go_enter Try.func14, Try.ntmps14
    go_wp2_with fail
    refine (vast_no _ _ _ _ hv).mono ?_
    rintro e w1 ⟨rfl, rfl⟩
    go_wp2_with fail
    refine (sum_any A0 c0 b0 _ w0 hl).mono ?_
    rintro e w2 ⟨rfl, rfl⟩
    generalize hs : ~~~ Cm.more (~~~ 0#32) (wide b0) = s
    have HS := Lib.hid hs
    clear hs
    have hB1 := two_first w (four s) (four o)
    have hB2 := two_second w (four s) (four o)
    have hbel := ((Below.refl w.heap.size w).alloc (Nat.le_refl _) (.cells (bv (four s)).toArray 5)).alloc (by simp) (.cells (bv (four o)).toArray 5)
    have hr2 : (U (~~~ Cm.more (~~~ s) (wide (four o))) == 558161692) = (U o == U s) := by
      by_cases h : o = s
      · subst h; rw [own_rest]; simp
      · have h1 := not_rest s o h
        have h2 : ¬ U o = U s := fun e => h (U_inj.1 e)
        rw [beq_eq_false_iff_ne.2 h1, beq_eq_false_iff_ne.2 h2]
    have HR := Lib.hid hr2
    clear hr2
    go_wp2_with fail
    refine (more_any s (some ⟨w.heap.size, 0, none⟩) 4 (four s) ((w.alloc (.cells (bv (four s)).toArray 5)).alloc (.cells (bv (four o)).toArray 5)) hB1 (show 4 ≤ maxLen by decide)).mono ?_
    rintro e w2 ⟨rfl, rfl⟩
    rw [own_rest]
    generalize (w.alloc (.cells (bv (four s)).toArray 5)).alloc (.cells (bv (four o)).toArray 5) = W1 at hB1 hB2 hbel ⊢
    have hs1 := hbel.size
    go_wp2_with fail
    refine (more_any s (some ⟨w.heap.size + 1, 0, none⟩) 4 (four o) _ hB2 (show 4 ≤ maxLen by decide)).mono ?_
    rintro e w2 ⟨rfl, rfl⟩
    generalize U (~~~ Cm.more (~~~ s) (wide (four o))) = r at HR ⊢
    have hr3 := HR.out
    clear HR
    have w0' := (Reads.below w0 hbel).more hs1
    go_wp2_with (first
      | (at_builtin; refine wpList_app rfl _ _ 22 rfl W1.heap.size 5 (.slice (some ⟨W1.heap.size, 0, none⟩) 0 0) [] b0 b0 W1.heap.size A0 c0 rfl rfl rfl (app_any _ W1.heap.size _ [] b0 (OwnB.made W1 _ 5 (Nat.le_refl _)) W1.heap.size A0 c0 (Reads.alloc w0' (Nat.le_refl _) _) (by simp; omega) (by simp)) W1 ((Below.refl _ _).alloc (Nat.le_refl _) _) (by intro k hk; simp [Value.ownBlock] at hk; omega) (by simp) ?_; intro A1 c1 W2 hown1 hB3 hl3 hg3 hbel3 hs3; have hB4 := Reads.more (Reads.below hB1 hbel3) hs3)
      | (at_builtin; refine wpList_app rfl _ _ 22 rfl W1.heap.size 5 (.slice A1 b0.length c1) b0 (four s) (b0 ++ four s) W2.heap.size (some ⟨w.heap.size, 0, none⟩) 4 rfl rfl rfl (app_any W2 W1.heap.size _ b0 (four s) hown1 W2.heap.size (some ⟨w.heap.size, 0, none⟩) 4 hB4 (by simp [four]; omega) hs3) W1 hbel3 (fun k hk => (World.ownsRow.lt hown1 k hk).1) hs3 ?_; intro A2 c2 W3 hown5 hB5 hl5 hg5 hbel5 hs5)
      | (go_at_call 35; refine (sum_n A2 _ c2 (b0 ++ four s) _ hB5 hl5 (by simp)).mono ?_; rintro e w2 ⟨rfl, rfl⟩; rw [sum_own b0 s HS.out])
      | (go_at_call 34; refine (works_any _).mono ?_; rintro e w4 ⟨rfl, hb4⟩))
    go_ret
    exact ⟨rfl, (hbel.trans (hbel5.mono hs1)).trans (hb4.mono (Nat.le_trans hs1 hs5))⟩

set_option maxRecDepth 100000 in
theorem lifted (os : Os) (started : os.Started) (H : Type) (enc : TypeId × Value → H) :
    ReturnsInHanded {} Try.checked os 14 .any (Rows.crcRestSpec.pre6 enc Try.prog Try.f14 Rows.crcRestRow.domain false) (Rows.crcRestSpec.post enc Try.prog Try.f14 false true false false) := by
  refine returnsInHanded_of_change (C := Try.checked) own started (by kernel_rfl) Try.func14
    (ChangeSpec.witness6 (enc := enc) (C := Try.checked) false ⟨#[], #[.slice none 0 0, .int .u32 0], []⟩ 8 (by kernel_rfl) (by kernel_rfl) (by kernel_rfl) (by kernel_rfl)) ?_
  intro W base args ds gs before hval0 hW hcnd _
  have hval : ∀ (j : Nat) t v, Try.f14.params[j]? = some t → args[j]? = some v → Value.okWide Try.prog W .any base t v := hval0
  have hW' := hW
  obtain ⟨p, q, hA0, hV, rfl, hfz, hnd⟩ := hW
  have hA : DataW.TrodAll enc Try.prog W 0 (fun _ => true) true Try.f14.params.toList args.toList ds p := hA0
  rw [Try.params14] at hA hval
  obtain ⟨v0, vs0, d0, ds0, p0, q0, hargs, rfl, rfl, h0, r0⟩ := trodAll_cons hA
  obtain ⟨v1, vs1, d1, ds1, p1, q1, rfl, rfl, rfl, h1, r1⟩ := trodAll_cons r0
  obtain ⟨rfl, rfl, rfl⟩ := trodAll_nil r1
  obtain rfl : args = #[v0, v1] := by cases args; simp_all
  obtain ⟨rfl, rfl⟩ := trodVars_none hV
  obtain ⟨A0, n0, c0, rfl⟩ := okWide_slice Try.underlying22 (hval 0 22 v0 rfl rfl)
  have k0 := h0
  have lt0 : ∀ x ∈ p0, x.block < W.heap.size := by obtain ⟨m, hm⟩ := k0; exact DataW.trod_lt m _ _ _ hm
  obtain ⟨z0, x0⟩ : ∃ zs, IsRow .u8 W A0 n0 c0 zs := by
    obtain ⟨fuel, hf⟩ := h0
    rcases open_ints Try.underlying22 Try.underlying5 (by kernel_rfl) hf with ⟨hcs, _⟩ | ⟨x, l, c, zs, hcs, _, hl, hm, hz, _, hcell, hwz⟩
    · simp [Value.cells] at hcs
      obtain ⟨rfl, rfl, rfl⟩ := hcs
      exact ⟨[], .inl ⟨rfl, rfl, rfl, rfl⟩⟩
    · simp [Value.cells] at hcs
      obtain ⟨rfl, rfl, rfl⟩ := hcs
      exact ⟨zs, .inr ⟨_, rfl, hl, hm, by simpa using hz, hcell, hwz⟩⟩
  obtain ⟨b0, rfl, w0, l0, m0⟩ := row_bytes x0
  obtain ⟨a1, rfl, rfl, rfl, w1⟩ := open_int Try.underlying51 (hval 1 51 v1 rfl rfl) h1
  clear hA0 hval0
  refine (walk A0 b0 c0 a1 W w0 l0 m0 w1).mono fun e W' ⟨he, bel⟩ => ?_
  subst he
  exact ⟨_, rfl, _, _, _, [], _, [], hW', trodAll_mk1 (shut_bool Try.underlying4 _), (trodAll_cons_mk (Below.trod laidOut (by kernel_rfl) (of_decide_eq_true (by kernel_rfl)) k0 bel lt0) (trodAll_cons_mk (shut_int Try.underlying51 w1) trodAll_mk0)), rfl, bel.frame _, fun h => by cases h⟩

theorem over : Rows.crcRestRow.holds Try.pinned (OpenSpec.ofChange Rows.crcRestSpec) :=
  OpenClaim.holds_of_wide 14 Try.f14 rfl rfl rfl rfl rfl rfl rfl ⟨rfl, rfl, rfl, rfl, rfl⟩ rfl rfl rfl rfl rfl (by kernel_rfl) Try.func14 (by kernel_rfl)
    (of_decide_eq_true (by kernel_rfl)) (by unfold Func.isWrapper; first | (rw [if_pos (by decide +kernel)]; kernel_rfl) | (rw [if_neg (by decide +kernel)]; exact ⟨rfl, rfl⟩))
    (fun os started H enc _ => lifted os started H enc)

theorem proved : Rows.CrcRestSaid := over
#print axioms proved
end Go.Proofs.Ytbfdliogpheekaa.crcRest
