/-
  CrcRows: bytes that differ from others in a row of 32 bits at most, somewhere, have another sum than these. For every input, without a condition.
-/
import Derived.Test.YtbfdliogpheekaaRows
import Derived.WalkKit
import Derived.ProofKit
import Derived.OpenShut
import Derived.ShutString
import Derived.ChangeOld
import Derived.Below
import Derived.Test.YtbfdliogpheekaaCrcE
import Derived.Test.YtbfdliogpheekaaKitC
import Derived.RegionTactic
import Derived.Maps.RangeWalk
namespace Go.Proofs.Ytbfdliogpheekaa.crcRows
open Go.ChangeShapes Go.WideShapes Go.ChangeAt Go.RowKit
open Go.ChangeMaps (open_string shut_string)
set_option linter.unusedVariables false

theorem own : ownKnob Try.prog.godebug = none := by kernel_rfl
theorem laidOut : laidOutB Try.prog = true := by kernel_rfl

theorem up_steps (k : Nat) : ∀ z : BitVec 32, (∀ j, 32 ≤ j + k → z.getLsbD j = false) → Cm.steps k (z <<< k) = z := by
  induction k with
  | zero => intro z _; simp [Cm.steps]
  | succ k ih =>
    intro z h
    have e : z <<< (k + 1) = (z <<< k) <<< 1 := by rw [← BitVec.shiftLeft_add]
    simp only [Cm.steps]
    rw [e, Cm.step_up]
    · exact ih z (fun j hj => h j (by omega))
    · rw [BitVec.getLsbD_shiftLeft]
      by_cases h2 : 31 < k
      · simp [h2]
      · rw [h (31 - k) (by omega)]; simp
theorem one_steps (k m : Nat) (hk : k < 32) (hm : k ≤ m) : Cm.steps m (1#32 <<< k) = Cm.steps (m - k) 1#32 := by
  rw [show m = k + (m - k) by omega, Cm.steps_add, up_steps k 1#32 (fun j hj => by
    have : j ≠ 0 := by omega
    obtain ⟨i, rfl⟩ : ∃ i, j = i + 1 := ⟨j - 1, by omega⟩
    show Nat.testBit (1 % 2 ^ 32) (i + 1) = false
    rw [show (1 % 2 ^ 32 : Nat) = 1 from rfl, Nat.testBit_succ]; simp), show k + (m - k) - k = m - k by omega]
theorem bit_wide (c : UInt8) (r : Nat) (hr : r < 8) : BitVec.ofNat 32 (c ^^^ UInt8.ofNat (2 ^ r)).toNat = BitVec.ofNat 32 c.toNat ^^^ (1#32 <<< r) := by
  have h1 : c.toNat < 256 := UInt8.toNat_lt c
  have h2 : 2 ^ r < 256 := by
    have : 2 ^ r < 2 ^ 8 := Nat.pow_lt_pow_right (by omega) hr
    omega
  have h4 : (UInt8.ofNat (2 ^ r)).toNat = 2 ^ r := by simp; omega
  have h3 : c.toNat ^^^ 2 ^ r < 2 ^ 8 := Nat.xor_lt_two_pow (by omega) (by omega)
  apply BitVec.eq_of_toNat_eq
  rw [BitVec.toNat_xor, BitVec.toNat_ofNat, BitVec.toNat_ofNat, BitVec.toNat_shiftLeft, UInt8.toNat_xor, h4, Nat.shiftLeft_eq, show (1#32 : BitVec 32).toNat = 1 from rfl, Nat.one_mul, Nat.mod_eq_of_lt (by omega), Nat.mod_eq_of_lt (by omega), Nat.mod_eq_of_lt (by omega)]
/-- one bit of a row of bytes turned. -/
theorem flip (s : BitVec 32) (l : List UInt8) (q r : Nat) (hq : q < l.length) (hr : r < 8) :
    Cm.more s (wide (l.set q (l[q] ^^^ UInt8.ofNat (2 ^ r)))) = Cm.more s (wide l) ^^^ Cm.steps (8 * l.length - (8 * q + r)) 1#32 := by
  have e1 : l = l.take q ++ l[q] :: l.drop (q + 1) := by rw [← List.drop_eq_getElem_cons hq, List.take_append_drop]
  have e2 : l.set q (l[q] ^^^ UInt8.ofNat (2 ^ r)) = l.take q ++ (l[q] ^^^ UInt8.ofNat (2 ^ r)) :: l.drop (q + 1) := by
    rw [List.set_eq_take_append_cons_drop, if_pos hq]
  have w1 : ∀ c : UInt8, Cm.more s (wide (l.take q ++ c :: l.drop (q + 1))) = Cm.more (Cm.steps 8 (Cm.more s (wide (l.take q)) ^^^ BitVec.ofNat 32 c.toNat)) (wide (l.drop (q + 1))) := by
    intro c
    rw [show wide (l.take q ++ c :: l.drop (q + 1)) = wide (l.take q) ++ BitVec.ofNat 32 c.toNat :: wide (l.drop (q + 1)) by simp [wide], Cm.more_append]
    rfl
  have e3 : Cm.more s (wide l) = Cm.more (Cm.steps 8 (Cm.more s (wide (l.take q)) ^^^ BitVec.ofNat 32 l[q].toNat)) (wide (l.drop (q + 1))) := by
    rw [← w1, ← e1]
  rw [e2, w1, e3, bit_wide _ _ hr, ← BitVec.xor_assoc, Cm.steps_xor, Cm.more_state, one_steps r 8 (by omega) (by omega), ← Cm.steps_add]
  congr 2
  rw [show (wide (l.drop (q + 1))).length = l.length - (q + 1) by simp [wide]]
  omega
/-- the sum's state is another one by the columns of the bits that were turned. -/
def turnedBy (n f : Nat) : Nat → BitVec 32 := fun i => Cm.steps (8 * n - (f + i)) 1#32
theorem cols_congr (g h : Nat → BitVec 32) (s : BitVec 32) : ∀ k, (∀ i, i < k → g i = h i) → Cm.ofCols g s k = Cm.ofCols h s k
  | 0, _ => rfl
  | k + 1, e => by
    simp only [Cm.ofCols]
    rw [cols_congr g h s k (fun i hi => e i (by omega)), e k (by omega)]
theorem never (n f : Nat) (row : BitVec 32) (hf : f + 32 ≤ 8 * n) (h : ¬ row = 0#32) : ¬ Cm.ofCols (turnedBy n f) row 32 = 0#32 := by
  have e : Cm.ofCols (turnedBy n f) row 32 = Cm.steps (8 * n - f - 32 + 32) row := by
    rw [← Cm.ofCols_steps]
    apply cols_congr
    intro i hi
    unfold turnedBy
    rw [one_steps i _ hi (by omega)]
    congr 1
    omega
  rw [e]
  intro h0
  exact h (Cm.steps_ne_zero _ _ h0)
/-- where the loop stands behind k rounds. -/
def Flips (w : World) (b : List UInt8) (f : Nat) (row : BitVec 32) (hi : Nat) (A : Option Addr) (k : Nat) (wr : World) : Prop :=
  ∃ l : List UInt8, RowO wr w.heap.size hi 5 A l ∧ l.length = b.length ∧ Cm.more (~~~ 0#32) (wide l) = Cm.more (~~~ 0#32) (wide b) ^^^ Cm.ofCols (turnedBy b.length f) row k ∧ Below w.heap.size w wr
theorem val_flip (c : UInt8) (r : Nat) (hr : r < 8) : Value.int .u8 (bits .xor .u8 (c.toNat : Int) ((2 : Int) ^ r % 256)) = .int .u8 ((c ^^^ UInt8.ofNat (2 ^ r)).toNat : Int) := by
  have h2 : 2 ^ r < 256 := by
    have : 2 ^ r < 2 ^ 8 := Nat.pow_lt_pow_right (by omega) hr
    omega
  have h3 : (2 : Int) ^ r % 256 = ((2 ^ r : Nat) : Int) := by
    rw [show (2 : Int) ^ r = ((2 ^ r : Nat) : Int) by rw [Int.natCast_pow]; rfl]
    generalize 2 ^ r = m at h2 ⊢
    omega
  have h4 : (UInt8.ofNat (2 ^ r)).toNat = 2 ^ r := by simp; omega
  rw [h3, u8_xor_nat _ _ (UInt8.toNat_lt c) h2, UInt8.toNat_xor, h4]
theorem Flips.yes {w wr : World} {b l : List UInt8} {f g hi k : Nat} {row : BitVec 32} (lo : w.heap.size ≤ g) (hi_ : g < hi) (R : Row wr g 5 l) (hlen : l.length = b.length)
    (hm : Cm.more (~~~ 0#32) (wide l) = Cm.more (~~~ 0#32) (wide b) ^^^ Cm.ofCols (turnedBy b.length f) row k) (hb : Below w.heap.size w wr) (hbit : bitB row k = true) (hq : (f + k) / 8 < l.length) :
    Flips w b f row hi (some ⟨g, 0, none⟩) (k + 1) (wr.setCell ⟨g, (f + k) / 8, none⟩ (.int .u8 (bits .xor .u8 (l[(f + k) / 8].toNat : Int) ((2 : Int) ^ ((f + k) % 8) % 256)))) := by
  refine ⟨_, fun _ => ⟨g, rfl, lo, hi_, R.set_ hq _ _ (val_flip _ _ (by omega))⟩, by rw [List.length_set]; exact hlen, ?_, hb.setCell lo _⟩
  rw [flip _ _ _ _ hq (by omega), hm, BitVec.xor_assoc]
  congr 1
  unfold bitB at hbit
  simp only [Cm.ofCols, hbit, if_true]
  congr 1
  unfold turnedBy
  rw [hlen, show 8 * ((f + k) / 8) + (f + k) % 8 = f + k by omega]
theorem Flips.no {w wr : World} {b l : List UInt8} {f hi k : Nat} {row : BitVec 32} {A : Option Addr} (hro : RowO wr w.heap.size hi 5 A l) (hlen : l.length = b.length)
    (hm : Cm.more (~~~ 0#32) (wide l) = Cm.more (~~~ 0#32) (wide b) ^^^ Cm.ofCols (turnedBy b.length f) row k) (hb : Below w.heap.size w wr) (hbit : bitB row k = false) :
    Flips w b f row hi A (k + 1) wr := by
  refine ⟨l, hro, hlen, ?_, hb⟩
  unfold bitB at hbit
  rw [hm]
  simp [Cm.ofCols, hbit]
theorem sum_n (A : Option Addr) (n c : Nat) (bs : List UInt8) (w : World) (hb : Bytes w w.heap.size A bs) (hl : bs.length ≤ maxLen) (hn : n = bs.length) :
    Calls Try.prog 35 #[.slice A n c] w fun e w' => e = .returned (.int .u32 (U (~~~ Cm.more (~~~ 0#32) (wide bs)))) ∧ w = w' := by
  subst hn
  exact sum_any A c bs w hb hl

set_option maxHeartbeats 1000000 in
theorem walk (A0 : Option Addr) (b0 : List UInt8) (c0 : Nat) (a1 : Int) (a2 : Int) (w : World) (w0 : Bytes w w.heap.size A0 b0) (l0 : b0.length ≤ c0) (m0 : c0 ≤ maxLen) (w1 : (Lit.int .u16 a1).wf = true) (w2 : (Lit.int .u32 a2).wf = true) :
    Calls Try.prog 11 #[.slice A0 b0.length c0, .int .u16 a1, .int .u32 a2] w fun e w' => e = .returned (.bool true) ∧ Below w.heap.size w w' := by
  have d1 := wf_u16 w1
  have d2 := wf_u32 w2
  clear w1 w2
  obtain ⟨row, rfl⟩ : ∃ r : BitVec 32, a2 = U r := ⟨_, (U_of a2 d2.1 d2.2).symm⟩
  clear d2
  obtain ⟨at_, rfl⟩ := Int.eq_ofNat_of_zero_le d1.1
  by_cases hv : 4096 < b0.length
  · go_enter Try.func11, Try.ntmps11
    go_wp2_with fail
    refine (vast_yes _ _ _ _ hv).mono ?_
    rintro e w1 ⟨rfl, rfl⟩
    go_wp2_with fail
    refine (works_any _).mono ?_
    rintro e w2 ⟨rfl, hb2⟩
    go_wp2_with fail
    go_ret
    exact ⟨rfl, hb2⟩
  · by_cases h4 : b0.length < 4
    · go_enter Try.func11, Try.ntmps11
      go_wp2_with fail
      refine (vast_no _ _ _ _ hv).mono ?_
      rintro e w1 ⟨rfl, rfl⟩
      go_wp2_with fail
      refine (works_any _).mono ?_
      rintro e w2 ⟨rfl, hb2⟩
      go_wp2_with fail
      go_ret
      exact ⟨rfl, hb2⟩
    · by_cases hr : row = 0#32
      · subst hr
        have hz : (U (0#32) == 0) = true := rfl
        go_enter Try.func11, Try.ntmps11
        go_wp2_with fail
        refine (vast_no _ _ _ _ hv).mono ?_
        rintro e w1 ⟨rfl, rfl⟩
        go_wp2_with fail
        refine (works_any _).mono ?_
        rintro e w2 ⟨rfl, hb2⟩
        go_wp2_with fail
        go_ret
        exact ⟨rfl, hb2⟩
      · have hz : (U row == 0) = false := by
          rw [show (0 : Int) = U 0#32 from rfl]
          exact beq_eq_false_iff_ne.2 (fun e => hr (U_inj.1 e))
        have hl : b0.length ≤ maxLen := by omega
        have hd4 : decide ((b0.length : Int) < 4) = false := by simp; omega
        go_enter Try.func11, Try.ntmps11
        go_wp2_with fail
        refine (vast_no _ _ _ _ hv).mono ?_
        rintro e w1 ⟨rfl, rfl⟩
        go_wp2_with (at_builtin; refine wpList_app rfl _ _ 22 rfl w.heap.size 5 (.slice (some ⟨w.heap.size, 0, none⟩) 0 0) [] b0 b0 w.heap.size A0 c0 rfl rfl rfl (app_any _ w.heap.size _ [] b0 (OwnB.made w _ 5 (Nat.le_refl _)) w.heap.size A0 c0 (Reads.alloc w0 (Nat.le_refl _) _) (by simp; omega) (by simp)) w ((Below.refl _ _).alloc (Nat.le_refl _) _) (by intro k hk; simp [Value.ownBlock] at hk; omega) (by simp) ?_; intro A4 c4 W1 hown1 hB1 hl1 hg1 hbel1 hs1)
        obtain ⟨f, hf, hf2⟩ : ∃ f : Nat, ((at_ : Int) % (8 * (b0.length : Int) - 31)) = (f : Int) ∧ f + 32 ≤ 8 * b0.length := by
          have h1 : 0 ≤ (at_ : Int) % (8 * (b0.length : Int) - 31) := Int.emod_nonneg _ (by omega)
          have h2 : (at_ : Int) % (8 * (b0.length : Int) - 31) < 8 * (b0.length : Int) - 31 := Int.emod_lt_of_pos _ (by omega)
          obtain ⟨f, hf⟩ := Int.eq_ofNat_of_zero_le h1
          exact ⟨f, hf, by omega⟩
        rw [hf]
        clear hf
        have hF0 : Flips w b0 f row W1.heap.size A4 0 W1 := ⟨b0, hown1.rowO, rfl, by simp [Cm.ofCols], hbel1⟩
        clear hown1 hB1 hl1 hg1 hbel1
        go_loopw [9] (fun i wr => ∃ k : Nat, k ≤ 32 ∧ i = .int .i64 k ∧ Flips w b0 f row W1.heap.size A4 k wr) (fun i _ => 32 - (intOf i).toNat)
        case atStart => exact ⟨0, by omega, rfl, hF0⟩
        case round =>
          obtain ⟨k, hk, rfl, l, hro, hlen, hm, hbw⟩ := hrel
          have HM := Lib.hid hm
          have HL := Lib.hid hlen
          clear hm
          by_cases hlt : k < 32
          · by_cases hbit : bitB row k = true
            · have hq : (f + k) / 8 < l.length := by omega
              obtain ⟨g, rfl, lo, hi, R⟩ := hro (by omega)
              have hc := R.cell hq
              have hfz := R.frozen ((f + k) / 8)
              clear hlen hro
              go_wp2
              go_roundw
              case rel => exact ⟨k + 1, by omega, by go_num, Flips.yes lo hi R HL.out HM.out hbw hbit hq⟩
              case measure => simp [intOf]; omega
            · have hbit' : bitB row k = false := by simpa using hbit
              clear hbit hlen
              go_wp2
              go_roundw
              case rel => exact ⟨k + 1, by omega, by go_num, Flips.no hro HL.out HM.out hbw hbit'⟩
              case measure => simp [intOf]; omega
          · obtain rfl : k = 32 := by omega
            have z1 := hro.bytes
            have z0 := Reads.more (Reads.below w0 hbw) hbw.size
            have hll : l.length ≤ maxLen := by rw [hlen]; exact hl
            have hne : ¬ U (~~~ Cm.more (~~~ 0#32) (wide l)) = U (~~~ Cm.more (~~~ 0#32) (wide b0)) := by
              intro e
              have e1 := congrArg (fun x => ~~~ x) (U_inj.1 e)
              simp only [BitVec.not_not] at e1
              rw [HM.out] at e1
              apply never b0.length f row hf2 hr
              have e2 : Cm.more (~~~ 0#32) (wide b0) ^^^ (Cm.more (~~~ 0#32) (wide b0) ^^^ Cm.ofCols (turnedBy b0.length f) row 32) = Cm.more (~~~ 0#32) (wide b0) ^^^ Cm.more (~~~ 0#32) (wide b0) := by rw [e1]
              rw [← BitVec.xor_assoc] at e2
              simpa using e2
            have HN := Lib.hid hne
            clear hne hlen
            go_wp2_with fail
            refine (sum_n _ _ _ l _ z1 hll HL.out.symm).mono ?_
            rintro e w9 ⟨rfl, rfl⟩
            generalize U (~~~ Cm.more (~~~ 0#32) (wide l)) = q1 at HN ⊢
            go_wp2_with fail
            refine (sum_n _ _ _ b0 _ z0 hl rfl).mono ?_
            rintro e w9 ⟨rfl, rfl⟩
            generalize U (~~~ Cm.more (~~~ 0#32) (wide b0)) = q2 at HN ⊢
            have hq : (q1 == q2) = false := beq_eq_false_iff_ne.2 HN.out
            have hqn : (q1 != q2) = true := by simp [bne, hq]
            clear HN
            go_wp2_with fail
            refine (works_any _).mono ?_
            rintro e w9 ⟨rfl, hb9⟩
            go_wp2_with fail
            go_ret
            exact ⟨rfl, hbw.trans (hb9.mono hbw.size)⟩

set_option maxRecDepth 100000 in
theorem lifted (os : Os) (started : os.Started) (H : Type) (enc : TypeId × Value → H) :
    ReturnsInHanded {} Try.checked os 11 .any (Rows.crcRowsSpec.pre6 enc Try.prog Try.f11 Rows.crcRowsRow.domain false) (Rows.crcRowsSpec.post enc Try.prog Try.f11 false true false false) := by
  refine returnsInHanded_of_change (C := Try.checked) own started (by kernel_rfl) Try.func11
    (ChangeSpec.witness6 (enc := enc) (C := Try.checked) false ⟨#[], #[.slice none 0 0, .int .u16 0, .int .u32 0], []⟩ 8 (by kernel_rfl) (by kernel_rfl) (by kernel_rfl) (by kernel_rfl)) ?_
  intro W base args ds gs before hval0 hW hcnd _
  have hval : ∀ (j : Nat) t v, Try.f11.params[j]? = some t → args[j]? = some v → Value.okWide Try.prog W .any base t v := hval0
  have hW' := hW
  obtain ⟨p, q, hA0, hV, rfl, hfz, hnd⟩ := hW
  have hA : DataW.TrodAll enc Try.prog W 0 (fun _ => true) true Try.f11.params.toList args.toList ds p := hA0
  rw [Try.params11] at hA hval
  obtain ⟨v0, vs0, d0, ds0, p0, q0, hargs, rfl, rfl, h0, r0⟩ := trodAll_cons hA
  obtain ⟨v1, vs1, d1, ds1, p1, q1, rfl, rfl, rfl, h1, r1⟩ := trodAll_cons r0
  obtain ⟨v2, vs2, d2, ds2, p2, q2, rfl, rfl, rfl, h2, r2⟩ := trodAll_cons r1
  obtain ⟨rfl, rfl, rfl⟩ := trodAll_nil r2
  obtain rfl : args = #[v0, v1, v2] := by cases args; simp_all
  obtain ⟨rfl, rfl⟩ := trodVars_none hV
  obtain ⟨A0, n0, c0, rfl⟩ := okWide_slice Try.underlying22 (hval 0 22 v0 rfl rfl)
  have k0 := h0
  have lt0 : ∀ x ∈ p0, x.block < W.heap.size := by obtain ⟨m, hm⟩ := k0; exact DataW.trod_lt m _ _ _ hm
  obtain ⟨z0, x0⟩ : ∃ zs, IsRow .u8 W A0 n0 c0 zs := by
    obtain ⟨fuel, hf⟩ := h0
    rcases open_ints Try.underlying22 Try.underlying5 (by kernel_rfl) hf with ⟨hcs, _⟩ | ⟨x, l, c, zs, hcs, _, hl, hm, hz, _, hcell, hwz⟩
    · simp [Value.cells] at hcs
      obtain ⟨rfl, rfl, rfl⟩ := hcs
      exact ⟨[], .inl ⟨rfl, rfl, rfl, rfl⟩⟩
    · simp [Value.cells] at hcs
      obtain ⟨rfl, rfl, rfl⟩ := hcs
      exact ⟨zs, .inr ⟨_, rfl, hl, hm, by simpa using hz, hcell, hwz⟩⟩
  obtain ⟨b0, rfl, w0, l0, m0⟩ := row_bytes x0
  obtain ⟨a1, rfl, rfl, rfl, w1⟩ := open_int Try.underlying49 (hval 1 49 v1 rfl rfl) h1
  obtain ⟨a2, rfl, rfl, rfl, w2⟩ := open_int Try.underlying51 (hval 2 51 v2 rfl rfl) h2
  clear hA0 hval0
  refine (walk A0 b0 c0 a1 a2 W w0 l0 m0 w1 w2).mono fun e W' ⟨he, bel⟩ => ?_
  subst he
  exact ⟨_, rfl, _, _, _, [], _, [], hW', trodAll_mk1 (shut_bool Try.underlying4 _), (trodAll_cons_mk (Below.trod laidOut (by kernel_rfl) (of_decide_eq_true (by kernel_rfl)) k0 bel lt0) (trodAll_cons_mk (shut_int Try.underlying49 w1) (trodAll_cons_mk (shut_int Try.underlying51 w2) trodAll_mk0))), rfl, bel.frame _, fun h => by cases h⟩

theorem over : Rows.crcRowsRow.holds Try.pinned (OpenSpec.ofChange Rows.crcRowsSpec) :=
  OpenClaim.holds_of_wide 11 Try.f11 rfl rfl rfl rfl rfl rfl rfl ⟨rfl, rfl, rfl, rfl, rfl⟩ rfl rfl rfl rfl rfl (by kernel_rfl) Try.func11 (by kernel_rfl)
    (of_decide_eq_true (by kernel_rfl)) (by unfold Func.isWrapper; first | (rw [if_pos (by decide +kernel)]; kernel_rfl) | (rw [if_neg (by decide +kernel)]; exact ⟨rfl, rfl⟩))
    (fun os started H enc _ => lifted os started H enc)

theorem proved : Rows.CrcRowsSaid := over
#print axioms proved
end Go.Proofs.Ytbfdliogpheekaa.crcRows
