/-
  CrcAffine: of three rows of bytes of one length the sums together are the sum of the bytes together. For every input, without a condition.
-/
import Derived.Test.YtbfdliogpheekaaRows
import Derived.WalkKit
import Derived.ProofKit
import Derived.OpenShut
import Derived.ShutString
import Derived.ChangeOld
import Derived.Below
import Derived.Test.YtbfdliogpheekaaCrcE
import Derived.Test.YtbfdliogpheekaaKitC
import Derived.RegionTactic
import Derived.Maps.RangeWalk
namespace Go.Proofs.Ytbfdliogpheekaa.crcAffine
open Go.ChangeShapes Go.WideShapes Go.ChangeAt Go.RowKit
open Go.ChangeMaps (open_string shut_string)
set_option linter.unusedVariables false

theorem own : ownKnob Try.prog.godebug = none := by kernel_rfl
theorem laidOut : laidOutB Try.prog = true := by kernel_rfl

/-- what stands in the three rows at last. -/
def fb (a t : List UInt8) : List UInt8 := (List.range a.length).map fun i => if i < t.length then a.getD i 0 ^^^ t.getD i 0 else a.getD i 0
def fc (a o : List UInt8) : List UInt8 := (List.range a.length).map fun i => if i < o.length then o.getD i 0 else a.getD i 0
def fa (a t o : List UInt8) : List UInt8 := (List.range a.length).map fun i => a.getD i 0 ^^^ (fb a t).getD i 0 ^^^ (fc a o).getD i 0
theorem fb_len (a t : List UInt8) : (fb a t).length = a.length := by simp [fb]
theorem fc_len (a o : List UInt8) : (fc a o).length = a.length := by simp [fc]
theorem fa_len (a t o : List UInt8) : (fa a t o).length = a.length := by simp [fa]
theorem fb_yes (a t : List UInt8) (k : Nat) (h : k < a.length) (ht : k < t.length) : (fb a t)[k]? = some (a[k] ^^^ t[k]) := by
  simp [fb, h, ht]
theorem fb_no (a t : List UInt8) (k : Nat) (h : k < a.length) (ht : ¬ k < t.length) : (fb a t)[k]? = some a[k] := by
  simp [fb, h, ht]
theorem fc_yes (a o : List UInt8) (k : Nat) (h : k < a.length) (ho : k < o.length) : (fc a o)[k]? = some o[k] := by
  simp [fc, h, ho]
theorem fc_no (a o : List UInt8) (k : Nat) (h : k < a.length) (ho : ¬ k < o.length) : (fc a o)[k]? = some a[k] := by
  simp [fc, h, ho]
theorem fa_at (a t o : List UInt8) (k : Nat) (h : k < a.length) (x y : UInt8) (hx : (fb a t)[k]? = some x) (hy : (fc a o)[k]? = some y) : (fa a t o)[k]? = some (a[k] ^^^ x ^^^ y) := by
  simp [fa, h, List.getD_eq_getElem?_getD, hx, hy]
theorem wide_xor (c d : UInt8) : BitVec.ofNat 32 (c ^^^ d).toNat = BitVec.ofNat 32 c.toNat ^^^ BitVec.ofNat 32 d.toNat := by
  apply BitVec.eq_of_toNat_eq
  have h1 : c.toNat < 256 := UInt8.toNat_lt c
  have h2 : d.toNat < 256 := UInt8.toNat_lt d
  have h3 : c.toNat ^^^ d.toNat < 2 ^ 8 := Nat.xor_lt_two_pow (by omega) (by omega)
  rw [BitVec.toNat_xor, BitVec.toNat_ofNat, BitVec.toNat_ofNat, BitVec.toNat_ofNat, UInt8.toNat_xor, Nat.mod_eq_of_lt (by omega), Nat.mod_eq_of_lt (by omega), Nat.mod_eq_of_lt (by omega)]
theorem three (a t o : List UInt8) (s : BitVec 32) :
    ~~~ Cm.more s (wide a) ^^^ ~~~ Cm.more s (wide (fb a t)) ^^^ ~~~ Cm.more s (wide (fc a o)) = ~~~ Cm.more s (wide (fa a t o)) := by
  have e : wide (fa a t o) = List.zipWith (· ^^^ ·) (List.zipWith (· ^^^ ·) (wide a) (wide (fb a t))) (wide (fc a o)) := by
    apply List.ext_getElem
    · simp [wide, fa_len, fb_len, fc_len]
    · intro i h1 h2
      have hi : i < a.length := by simpa [wide, fa_len] using h1
      simp only [wide, List.getElem_map, List.getElem_zipWith]
      have hb : i < (fb a t).length := by rw [fb_len]; exact hi
      have hc : i < (fc a o).length := by rw [fc_len]; exact hi
      have ha : i < (fa a t o).length := by rw [fa_len]; exact hi
      have := fa_at a t o i hi _ _ (List.getElem?_eq_getElem hb) (List.getElem?_eq_getElem hc)
      rw [List.getElem?_eq_getElem ha] at this
      injection this with this
      rw [this, wide_xor, wide_xor]
  have h1 : Cm.more s (wide a) ^^^ Cm.more s (wide (fb a t)) = Cm.more (s ^^^ s) (List.zipWith (· ^^^ ·) (wide a) (wide (fb a t))) := Cm.more_xor _ _ _ _ (by simp [wide, fb_len])
  have h2 := Cm.more_xor (List.zipWith (· ^^^ ·) (wide a) (wide (fb a t))) (wide (fc a o)) (s ^^^ s) s (by simp [wide, fb_len, fc_len])
  rw [← e, ← h1] at h2
  rw [show s ^^^ s ^^^ s = s by simp] at h2
  rw [← h2]
  apply BitVec.eq_of_getLsbD_eq
  intro i hi
  simp only [BitVec.getLsbD_xor, BitVec.getLsbD_not]
  cases (Cm.more s (wide a)).getLsbD i <;> cases (Cm.more s (wide (fb a t))).getLsbD i <;> cases (Cm.more s (wide (fc a o))).getLsbD i <;> simp [hi]
/-- where the loop stands behind k rounds. -/
def Three (w : World) (a t o : List UInt8) (h1 h2 h3 : Nat) (A1 A2 A3 : Option Addr) (k : Nat) (wr : World) : Prop :=
  RowO wr w.heap.size h1 5 A1 (mix k (fb a t) a) ∧ RowO wr h1 h2 5 A2 (mix k (fc a o) a) ∧ RowO wr h2 h3 5 A3 (mix k (fa a t o) a) ∧ Below w.heap.size w wr
theorem sum_n (A : Option Addr) (n c : Nat) (bs : List UInt8) (w : World) (hb : Bytes w w.heap.size A bs) (hl : bs.length ≤ maxLen) (hn : n = bs.length) :
    Calls Try.prog 35 #[.slice A n c] w fun e w' => e = .returned (.int .u32 (U (~~~ Cm.more (~~~ 0#32) (wide bs)))) ∧ w = w' := by
  subst hn
  exact sum_any A c bs w hb hl
theorem u8x (c d : UInt8) : bits .xor .u8 (c.toNat : Int) (d.toNat : Int) = ((c ^^^ d).toNat : Int) := by
  rw [u8_xor_nat _ _ (UInt8.toNat_lt c) (UInt8.toNat_lt d), UInt8.toNat_xor]
theorem three_of {w wn : World} {a t o : List UInt8} {h1 h2 h3 g1 g2 g3 k : Nat} (lo1 : w.heap.size ≤ g1) (hi1 : g1 < h1) (lo2 : h1 ≤ g2) (hi2 : g2 < h2) (lo3 : h2 ≤ g3) (hi3 : g3 < h3)
    (R1 : Row wn g1 5 (mix k (fb a t) a)) (R2 : Row wn g2 5 (mix k (fc a o) a)) (R3 : Row wn g3 5 (mix k (fa a t o) a)) (hb : Below w.heap.size w wn) :
    Three w a t o h1 h2 h3 (some ⟨g1, 0, none⟩) (some ⟨g2, 0, none⟩) (some ⟨g3, 0, none⟩) k wn :=
  ⟨fun _ => ⟨g1, rfl, lo1, hi1, R1⟩, fun _ => ⟨g2, rfl, lo2, hi2, R2⟩, fun _ => ⟨g3, rfl, lo3, hi3, R3⟩, hb⟩
theorem row_set {w : World} {g k : Nat} {xs ys : List UInt8} {c : UInt8} {v : Value} (R : Row w g 5 (mix k xs ys)) (h : xs.length = ys.length) (hk : k < ys.length) (hc : xs[k]? = some c) (hv : v = .int .u8 (c.toNat : Int)) :
    Row (w.setCell ⟨g, k, none⟩ v) g 5 (mix (k + 1) xs ys) := by
  rw [← mix_set k xs ys h hk c hc]
  exact R.set_ (by rw [mix_len k xs ys h (by omega)]; exact hk) c v hv
theorem row_same {w : World} {g k : Nat} {xs ys : List UInt8} (R : Row w g 5 (mix k xs ys)) (h : xs.length = ys.length) (hk : k < ys.length) (hc : xs[k]? = some ys[k]) : Row w g 5 (mix (k + 1) xs ys) := by
  rw [← mix_same k xs ys h hk hc]; exact R
theorem xor_in (c d : UInt8) : Value.int .u8 ((c.toNat ^^^ d.toNat : Nat) : Int) = .int .u8 ((c ^^^ d).toNat : Int) := by rw [UInt8.toNat_xor]
theorem xor_three (a x y : UInt8) (n : Nat) (h : n = x.toNat) : Value.int .u8 (bits .xor .u8 (bits .xor .u8 (a.toNat : Int) (n : Int)) (y.toNat : Int)) = .int .u8 ((a ^^^ x ^^^ y).toNat : Int) := by
  subst h; rw [u8x, u8x]
theorem xor_own (a y : UInt8) : Value.int .u8 (bits .xor .u8 0 (y.toNat : Int)) = .int .u8 ((a ^^^ a ^^^ y).toNat : Int) := by
  have := u8x 0 y
  rw [show ((0 : UInt8).toNat : Int) = 0 from rfl] at this
  rw [this]; simp
attribute [local go_sem] u8x

set_option maxHeartbeats 1000000 in
theorem walk (A0 : Option Addr) (b0 : List UInt8) (c0 : Nat) (A1 : Option Addr) (b1 : List UInt8) (c1 : Nat) (A2 : Option Addr) (b2 : List UInt8) (c2 : Nat) (w : World) (w0 : Bytes w w.heap.size A0 b0) (l0 : b0.length ≤ c0) (m0 : c0 ≤ maxLen) (w1 : Bytes w w.heap.size A1 b1) (l1 : b1.length ≤ c1) (m1 : c1 ≤ maxLen) (w2 : Bytes w w.heap.size A2 b2) (l2 : b2.length ≤ c2) (m2 : c2 ≤ maxLen) :
    Calls Try.prog 13 #[.slice A0 b0.length c0, .slice A1 b1.length c1, .slice A2 b2.length c2] w fun e w' => e = .returned (.bool true) ∧ Below w.heap.size w w' := by
  by_cases hv : 4096 < b0.length ∨ 4096 < b1.length ∨ 4096 < b2.length
  · by_cases hv0 : 4096 < b0.length
    · go_enter Try.func13, Try.ntmps13
      go_wp2_with fail
      refine (vast_yes _ _ _ _ hv0).mono ?_
      rintro e w1 ⟨rfl, rfl⟩
      go_wp2_with fail
      refine (works_any _).mono ?_
      rintro e w2 ⟨rfl, hb2⟩
      go_wp2_with fail
      go_ret
      exact ⟨rfl, hb2⟩
    · by_cases hv1 : 4096 < b1.length
      · go_enter Try.func13, Try.ntmps13
        go_wp2_with fail
        refine (vast_no _ _ _ _ hv0).mono ?_
        rintro e w1 ⟨rfl, rfl⟩
        go_wp2_with fail
        refine (vast_yes _ _ _ _ hv1).mono ?_
        rintro e w1 ⟨rfl, rfl⟩
        go_wp2_with fail
        refine (works_any _).mono ?_
        rintro e w2 ⟨rfl, hb2⟩
        go_wp2_with fail
        go_ret
        exact ⟨rfl, hb2⟩
      · have hv2 : 4096 < b2.length := by omega
        go_enter Try.func13, Try.ntmps13
        go_wp2_with fail
        refine (vast_no _ _ _ _ hv0).mono ?_
        rintro e w1 ⟨rfl, rfl⟩
        go_wp2_with fail
        refine (vast_no _ _ _ _ hv1).mono ?_
        rintro e w1 ⟨rfl, rfl⟩
        go_wp2_with fail
        refine (vast_yes _ _ _ _ hv2).mono ?_
        rintro e w1 ⟨rfl, rfl⟩
        go_wp2_with fail
        refine (works_any _).mono ?_
        rintro e w2 ⟨rfl, hb2⟩
        go_wp2_with fail
        go_ret
        exact ⟨rfl, hb2⟩
  · have hv0 : ¬ 4096 < b0.length := by omega
    have hv1 : ¬ 4096 < b1.length := by omega
    have hv2 : ¬ 4096 < b2.length := by omega
    have hl : b0.length ≤ maxLen := by omega
    go_enter Try.func13, Try.ntmps13
    go_wp2_with fail
    refine (vast_no _ _ _ _ hv0).mono ?_
    rintro e w1 ⟨rfl, rfl⟩
    go_wp2_with fail
    refine (vast_no _ _ _ _ hv1).mono ?_
    rintro e w1 ⟨rfl, rfl⟩
    go_wp2_with fail
    refine (vast_no _ _ _ _ hv2).mono ?_
    rintro e w1 ⟨rfl, rfl⟩
    go_wp2_with (first
      | (at_builtin; refine wpList_app rfl _ _ 22 rfl w.heap.size 5 (.slice (some ⟨w.heap.size, 0, none⟩) 0 0) [] b0 b0 w.heap.size A0 c0 rfl rfl rfl (app_any _ w.heap.size _ [] b0 (OwnB.made w _ 5 (Nat.le_refl _)) w.heap.size A0 c0 (Reads.alloc w0 (Nat.le_refl _) _) (by simp; omega) (by simp)) w ((Below.refl _ _).alloc (Nat.le_refl _) _) (by intro k hk; simp [Value.ownBlock] at hk; omega) (by simp) ?_; intro A4 c4 W1 hown1 hB1 hl1 hg1 hbel1 hs1; have x1 := Reads.more (Reads.below w0 hbel1) hs1)
      | (at_builtin; refine wpList_app rfl _ _ 22 rfl W1.heap.size 5 (.slice (some ⟨W1.heap.size, 0, none⟩) 0 0) [] b0 b0 W1.heap.size A0 c0 rfl rfl rfl (app_any _ W1.heap.size _ [] b0 (OwnB.made W1 _ 5 (Nat.le_refl _)) W1.heap.size A0 c0 (Reads.alloc x1 (Nat.le_refl _) _) (by simp; omega) (by simp)) W1 ((Below.refl _ _).alloc (Nat.le_refl _) _) (by intro k hk; simp [Value.ownBlock] at hk; omega) (by simp) ?_; intro A5 c5 W2 hown2 hB2 hl2 hg2 hbel2 hs2; have x2 := Reads.more (Reads.below x1 hbel2) hs2)
      | (at_builtin; refine wpList_app rfl _ _ 22 rfl W2.heap.size 5 (.slice (some ⟨W2.heap.size, 0, none⟩) 0 0) [] b0 b0 W2.heap.size A0 c0 rfl rfl rfl (app_any _ W2.heap.size _ [] b0 (OwnB.made W2 _ 5 (Nat.le_refl _)) W2.heap.size A0 c0 (Reads.alloc x2 (Nat.le_refl _) _) (by simp; omega) (by simp)) W2 ((Below.refl _ _).alloc (Nat.le_refl _) _) (by intro k hk; simp [Value.ownBlock] at hk; omega) (by simp) ?_; intro A6 c6 W3 hown3 hB3 hl3 hg3 hbel3 hs3))
    have r1 := hown1.rowO
    have r2 := hown2.rowO
    have r3 := hown3.rowO
    have hT0 : Three w b0 b1 b2 W1.heap.size W2.heap.size W3.heap.size A4 A5 A6 0 W3 := by
      refine ⟨?_, ?_, ?_, ?_⟩
      · rw [mix_zero]; exact (r1.below hbel2 (Nat.le_refl _)).below hbel3 hs2
      · rw [mix_zero]; exact r2.below hbel3 (Nat.le_refl _)
      · rw [mix_zero]; exact r3
      · exact (hbel1.trans (hbel2.mono hs1)).trans (hbel3.mono (Nat.le_trans hs1 hs2))
    clear hown1 hown2 hown3 r1 r2 r3 x1 x2 hg1 hg2 hg3 hB1 hB2 hB3 hl1 hl2 hl3 hbel1 hbel2 hbel3
    go_loopw [10] (fun i wr => ∃ k : Nat, k ≤ b0.length ∧ i = .int .i64 k ∧ Three w b0 b1 b2 W1.heap.size W2.heap.size W3.heap.size A4 A5 A6 k wr) (fun i _ => b0.length - (intOf i).toNat)
    case atStart => exact ⟨0, by omega, rfl, hT0⟩
    case round =>
      obtain ⟨k, hk, rfl, h1, h2, h3, hbw⟩ := hrel
      have y0 := Reads.below w0 hbw
      have y1 := Reads.below w1 hbw
      have y2 := Reads.below w2 hbw
      by_cases hlt : k < b0.length
      · have hm1 := mix_len k _ _ (fb_len b0 b1) hk
        have hm2 := mix_len k _ _ (fc_len b0 b2) hk
        have hm3 := mix_len k _ _ (fa_len b0 b1 b2) hk
        obtain ⟨g1, rfl, lo1, hi1, R1⟩ := h1 (by omega)
        obtain ⟨g2, rfl, lo2, hi2, R2⟩ := h2 (by omega)
        obtain ⟨g3, rfl, lo3, hi3, R3⟩ := h3 (by omega)
        have n12 : ¬ g1 = g2 := by omega
        have n13 : ¬ g1 = g3 := by omega
        have n23 : ¬ g2 = g3 := by omega
        have n21 : ¬ g2 = g1 := by omega
        have n31 : ¬ g3 = g1 := by omega
        have n32 : ¬ g3 = g2 := by omega
        have e1 := R1.cellAt (mix_at k _ _ (fb_len b0 b1) hlt)
        have e2 := R2.cellAt (mix_at k _ _ (fc_len b0 b2) hlt)
        have e3 := R3.cellAt (mix_at k _ _ (fa_len b0 b1 b2) hlt)
        have f1 := R1.frozen k
        have f2 := R2.frozen k
        have f3 := R3.frozen k
        obtain ⟨ba, oa, rfl, Ba, ca⟩ := Bytes.at_ y0 hlt
        have na1 : ¬ ba = g1 := by omega
        have na2 : ¬ ba = g2 := by omega
        have na3 : ¬ ba = g3 := by omega
        have N := Lib.hid (And.intro hm1 (And.intro hm2 hm3))
        clear hm1 hm2 hm3 h1 h2 h3 y0
        by_cases ht : k < b1.length
        · obtain ⟨bt, ot, rfl, Bt, ct⟩ := Bytes.at_ y1 ht
          have nt1 : ¬ bt = g1 := by omega
          have nt2 : ¬ bt = g2 := by omega
          have nt3 : ¬ bt = g3 := by omega
          by_cases ho : k < b2.length
          · obtain ⟨bo, oo, rfl, Bo, co⟩ := Bytes.at_ y2 ho
            have no1 : ¬ bo = g1 := by omega
            have no2 : ¬ bo = g2 := by omega
            have no3 : ¬ bo = g3 := by omega
            clear y1 y2
            go_wp2
            go_region
            go_wp2
            go_region
            go_wp2
            go_roundw
            case rel => exact ⟨k + 1, by omega, by go_num, three_of lo1 hi1 lo2 hi2 lo3 hi3 ((((row_set R1 (fb_len b0 b1) hlt (fb_yes b0 b1 k hlt ht) (xor_in _ _)).far (p := ⟨g2, k, none⟩) n12 _).far (p := ⟨g3, k, none⟩) n13 _).drew.drew) (((row_set (R2.far (p := ⟨g1, k, none⟩) n21 _) (fc_len b0 b2) hlt (fc_yes b0 b2 k hlt ho) rfl).far (p := ⟨g3, k, none⟩) n23 _).drew.drew) ((row_set ((R3.far (p := ⟨g1, k, none⟩) n31 _).far (p := ⟨g2, k, none⟩) n32 _) (fa_len b0 b1 b2) hlt (fa_at b0 b1 b2 k hlt _ _ (fb_yes b0 b1 k hlt ht) (fc_yes b0 b2 k hlt ho)) (xor_three _ _ _ _ (by simp))).drew.drew) ((((hbw.setCell (p := ⟨g1, k, none⟩) lo1 _).setCell (p := ⟨g2, k, none⟩) (by show w.heap.size ≤ g2; omega) _).setCell (p := ⟨g3, k, none⟩) (by show w.heap.size ≤ g3; omega) _).drew.drew)⟩
            case measure => simp [intOf]; omega
          · 
            clear y1 y2
            go_wp2
            go_region
            go_wp2
            go_region
            go_wp2
            go_roundw
            case rel => exact ⟨k + 1, by omega, by go_num, three_of lo1 hi1 lo2 hi2 lo3 hi3 (((row_set R1 (fb_len b0 b1) hlt (fb_yes b0 b1 k hlt ht) (xor_in _ _)).far (p := ⟨g3, k, none⟩) n13 _).drew.drew) (((row_same (R2.far (p := ⟨g1, k, none⟩) n21 _) (fc_len b0 b2) hlt (fc_no b0 b2 k hlt ho)).far (p := ⟨g3, k, none⟩) n23 _).drew.drew) ((row_set (R3.far (p := ⟨g1, k, none⟩) n31 _) (fa_len b0 b1 b2) hlt (fa_at b0 b1 b2 k hlt _ _ (fb_yes b0 b1 k hlt ht) (fc_no b0 b2 k hlt ho)) (xor_three _ _ _ _ (by simp))).drew.drew) (((hbw.setCell (p := ⟨g1, k, none⟩) lo1 _).setCell (p := ⟨g3, k, none⟩) (by show w.heap.size ≤ g3; omega) _).drew.drew)⟩
            case measure => simp [intOf]; omega
        · by_cases ho : k < b2.length
          · obtain ⟨bo, oo, rfl, Bo, co⟩ := Bytes.at_ y2 ho
            have no1 : ¬ bo = g1 := by omega
            have no2 : ¬ bo = g2 := by omega
            have no3 : ¬ bo = g3 := by omega
            clear y1 y2
            go_wp2
            go_region
            go_wp2
            go_roundw
            case rel => exact ⟨k + 1, by omega, by go_num, three_of lo1 hi1 lo2 hi2 lo3 hi3 ((((row_same R1 (fb_len b0 b1) hlt (fb_no b0 b1 k hlt ht)).far (p := ⟨g2, k, none⟩) n12 _).far (p := ⟨g3, k, none⟩) n13 _).drew) (((row_set R2 (fc_len b0 b2) hlt (fc_yes b0 b2 k hlt ho) rfl).far (p := ⟨g3, k, none⟩) n23 _).drew) ((row_set (R3.far (p := ⟨g2, k, none⟩) n32 _) (fa_len b0 b1 b2) hlt (fa_at b0 b1 b2 k hlt _ _ (fb_no b0 b1 k hlt ht) (fc_yes b0 b2 k hlt ho)) (xor_own _ _)).drew) (((hbw.setCell (p := ⟨g2, k, none⟩) (by show w.heap.size ≤ g2; omega) _).setCell (p := ⟨g3, k, none⟩) (by show w.heap.size ≤ g3; omega) _).drew)⟩
            case measure => simp [intOf]; omega
          · 
            clear y1 y2
            go_wp2
            go_region
            go_wp2
            go_roundw
            case rel => exact ⟨k + 1, by omega, by go_num, three_of lo1 hi1 lo2 hi2 lo3 hi3 (((row_same R1 (fb_len b0 b1) hlt (fb_no b0 b1 k hlt ht)).far (p := ⟨g3, k, none⟩) n13 _).drew) (((row_same R2 (fc_len b0 b2) hlt (fc_no b0 b2 k hlt ho)).far (p := ⟨g3, k, none⟩) n23 _).drew) ((row_set R3 (fa_len b0 b1 b2) hlt (fa_at b0 b1 b2 k hlt _ _ (fb_no b0 b1 k hlt ht) (fc_no b0 b2 k hlt ho)) (xor_own _ _)).drew) ((hbw.setCell (p := ⟨g3, k, none⟩) (by show w.heap.size ≤ g3; omega) _).drew)⟩
            case measure => simp [intOf]; omega
      · obtain rfl : k = b0.length := by omega
        clear hk
        have z1 := h1.bytes
        have z2 := h2.bytes
        have z3 := h3.bytes
        rw [mix_all _ _ (fb_len b0 b1)] at z1
        rw [mix_all _ _ (fc_len b0 b2)] at z2
        rw [mix_all _ _ (fa_len b0 b1 b2)] at z3
        have y0' := Reads.more y0 hbw.size
        clear h1 h2 h3 y0 y1 y2
        go_wp2_with fail
        refine (sum_n _ _ _ b0 _ y0' hl rfl).mono ?_
        rintro e w9 ⟨rfl, rfl⟩
        generalize hq1 : ~~~ Cm.more (~~~ 0#32) (wide b0) = q1
        have Q1 := Lib.hid hq1
        clear hq1
        go_wp2_with fail
        refine (sum_n _ _ _ (fb b0 b1) _ z1 (by rw [fb_len]; exact hl) (by rw [fb_len])).mono ?_
        rintro e w9 ⟨rfl, rfl⟩
        generalize hq2 : ~~~ Cm.more (~~~ 0#32) (wide (fb b0 b1)) = q2
        have Q2 := Lib.hid hq2
        clear hq2
        go_wp2_with fail
        refine (sum_n _ _ _ (fc b0 b2) _ z2 (by rw [fc_len]; exact hl) (by rw [fc_len])).mono ?_
        rintro e w9 ⟨rfl, rfl⟩
        generalize hq3 : ~~~ Cm.more (~~~ 0#32) (wide (fc b0 b2)) = q3
        have Q3 := Lib.hid hq3
        clear hq3
        have E1 : Hid (q1 ^^^ q2 ^^^ q3 = ~~~ Cm.more (~~~ 0#32) (wide (fa b0 b1 b2))) := by
          rw [← Q1.out, ← Q2.out, ← Q3.out]; exact three b0 b1 b2 (~~~ 0#32)
        go_wp2_with fail
        refine (sum_n _ _ _ (fa b0 b1 b2) _ z3 (by rw [fa_len]; exact hl) (by rw [fa_len])).mono ?_
        rintro e w9 ⟨rfl, rfl⟩
        rw [← E1.out]
        go_wp2_with fail
        refine (works_any _).mono ?_
        rintro e w9 ⟨rfl, hb9⟩
        go_wp2_with fail
        go_ret
        exact ⟨rfl, hbw.trans (hb9.mono hbw.size)⟩

set_option maxRecDepth 100000 in
theorem lifted (os : Os) (started : os.Started) (H : Type) (enc : TypeId × Value → H) :
    ReturnsInHanded {} Try.checked os 13 .any (Rows.crcAffineSpec.pre6 enc Try.prog Try.f13 Rows.crcAffineRow.domain false) (Rows.crcAffineSpec.post enc Try.prog Try.f13 false true false false) := by
  refine returnsInHanded_of_change (C := Try.checked) own started (by kernel_rfl) Try.func13
    (ChangeSpec.witness6 (enc := enc) (C := Try.checked) false ⟨#[], #[.slice none 0 0, .slice none 0 0, .slice none 0 0], []⟩ 8 (by kernel_rfl) (by kernel_rfl) (by kernel_rfl) (by kernel_rfl)) ?_
  intro W base args ds gs before hval0 hW hcnd _
  have hval : ∀ (j : Nat) t v, Try.f13.params[j]? = some t → args[j]? = some v → Value.okWide Try.prog W .any base t v := hval0
  have hW' := hW
  obtain ⟨p, q, hA0, hV, rfl, hfz, hnd⟩ := hW
  have hA : DataW.TrodAll enc Try.prog W 0 (fun _ => true) true Try.f13.params.toList args.toList ds p := hA0
  rw [Try.params13] at hA hval
  obtain ⟨v0, vs0, d0, ds0, p0, q0, hargs, rfl, rfl, h0, r0⟩ := trodAll_cons hA
  obtain ⟨v1, vs1, d1, ds1, p1, q1, rfl, rfl, rfl, h1, r1⟩ := trodAll_cons r0
  obtain ⟨v2, vs2, d2, ds2, p2, q2, rfl, rfl, rfl, h2, r2⟩ := trodAll_cons r1
  obtain ⟨rfl, rfl, rfl⟩ := trodAll_nil r2
  obtain rfl : args = #[v0, v1, v2] := by cases args; simp_all
  obtain ⟨rfl, rfl⟩ := trodVars_none hV
  obtain ⟨A0, n0, c0, rfl⟩ := okWide_slice Try.underlying22 (hval 0 22 v0 rfl rfl)
  have k0 := h0
  have lt0 : ∀ x ∈ p0, x.block < W.heap.size := by obtain ⟨m, hm⟩ := k0; exact DataW.trod_lt m _ _ _ hm
  obtain ⟨z0, x0⟩ : ∃ zs, IsRow .u8 W A0 n0 c0 zs := by
    obtain ⟨fuel, hf⟩ := h0
    rcases open_ints Try.underlying22 Try.underlying5 (by kernel_rfl) hf with ⟨hcs, _⟩ | ⟨x, l, c, zs, hcs, _, hl, hm, hz, _, hcell, hwz⟩
    · simp [Value.cells] at hcs
      obtain ⟨rfl, rfl, rfl⟩ := hcs
      exact ⟨[], .inl ⟨rfl, rfl, rfl, rfl⟩⟩
    · simp [Value.cells] at hcs
      obtain ⟨rfl, rfl, rfl⟩ := hcs
      exact ⟨zs, .inr ⟨_, rfl, hl, hm, by simpa using hz, hcell, hwz⟩⟩
  obtain ⟨b0, rfl, w0, l0, m0⟩ := row_bytes x0
  obtain ⟨A1, n1, c1, rfl⟩ := okWide_slice Try.underlying22 (hval 1 22 v1 rfl rfl)
  have k1 := h1
  have lt1 : ∀ x ∈ p1, x.block < W.heap.size := by obtain ⟨m, hm⟩ := k1; exact DataW.trod_lt m _ _ _ hm
  obtain ⟨z1, x1⟩ : ∃ zs, IsRow .u8 W A1 n1 c1 zs := by
    obtain ⟨fuel, hf⟩ := h1
    rcases open_ints Try.underlying22 Try.underlying5 (by kernel_rfl) hf with ⟨hcs, _⟩ | ⟨x, l, c, zs, hcs, _, hl, hm, hz, _, hcell, hwz⟩
    · simp [Value.cells] at hcs
      obtain ⟨rfl, rfl, rfl⟩ := hcs
      exact ⟨[], .inl ⟨rfl, rfl, rfl, rfl⟩⟩
    · simp [Value.cells] at hcs
      obtain ⟨rfl, rfl, rfl⟩ := hcs
      exact ⟨zs, .inr ⟨_, rfl, hl, hm, by simpa using hz, hcell, hwz⟩⟩
  obtain ⟨b1, rfl, w1, l1, m1⟩ := row_bytes x1
  obtain ⟨A2, n2, c2, rfl⟩ := okWide_slice Try.underlying22 (hval 2 22 v2 rfl rfl)
  have k2 := h2
  have lt2 : ∀ x ∈ p2, x.block < W.heap.size := by obtain ⟨m, hm⟩ := k2; exact DataW.trod_lt m _ _ _ hm
  obtain ⟨z2, x2⟩ : ∃ zs, IsRow .u8 W A2 n2 c2 zs := by
    obtain ⟨fuel, hf⟩ := h2
    rcases open_ints Try.underlying22 Try.underlying5 (by kernel_rfl) hf with ⟨hcs, _⟩ | ⟨x, l, c, zs, hcs, _, hl, hm, hz, _, hcell, hwz⟩
    · simp [Value.cells] at hcs
      obtain ⟨rfl, rfl, rfl⟩ := hcs
      exact ⟨[], .inl ⟨rfl, rfl, rfl, rfl⟩⟩
    · simp [Value.cells] at hcs
      obtain ⟨rfl, rfl, rfl⟩ := hcs
      exact ⟨zs, .inr ⟨_, rfl, hl, hm, by simpa using hz, hcell, hwz⟩⟩
  obtain ⟨b2, rfl, w2, l2, m2⟩ := row_bytes x2
  clear hA0 hval0
  refine (walk A0 b0 c0 A1 b1 c1 A2 b2 c2 W w0 l0 m0 w1 l1 m1 w2 l2 m2).mono fun e W' ⟨he, bel⟩ => ?_
  subst he
  exact ⟨_, rfl, _, _, _, [], _, [], hW', trodAll_mk1 (shut_bool Try.underlying4 _), (trodAll_cons_mk (Below.trod laidOut (by kernel_rfl) (of_decide_eq_true (by kernel_rfl)) k0 bel lt0) (trodAll_cons_mk (Below.trod laidOut (by kernel_rfl) (of_decide_eq_true (by kernel_rfl)) k1 bel lt1) (trodAll_cons_mk (Below.trod laidOut (by kernel_rfl) (of_decide_eq_true (by kernel_rfl)) k2 bel lt2) trodAll_mk0))), rfl, bel.frame _, fun h => by cases h⟩

theorem over : Rows.crcAffineRow.holds Try.pinned (OpenSpec.ofChange Rows.crcAffineSpec) :=
  OpenClaim.holds_of_wide 13 Try.f13 rfl rfl rfl rfl rfl rfl rfl ⟨rfl, rfl, rfl, rfl, rfl⟩ rfl rfl rfl rfl rfl (by kernel_rfl) Try.func13 (by kernel_rfl)
    (of_decide_eq_true (by kernel_rfl)) (by unfold Func.isWrapper; first | (rw [if_pos (by decide +kernel)]; kernel_rfl) | (rw [if_neg (by decide +kernel)]; exact ⟨rfl, rfl⟩))
    (fun os started H enc _ => lifted os started H enc)

theorem proved : Rows.CrcAffineSaid := over
#print axioms proved
end Go.Proofs.Ytbfdliogpheekaa.crcAffine
