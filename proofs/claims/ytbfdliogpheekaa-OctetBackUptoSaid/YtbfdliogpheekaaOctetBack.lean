/-
  OctetBack, up to a bulk of 1048576 of what comes in: what was put is taken, whatever stands ahead and behind; strings are split again; what is split is put as it stood. The bulk's bound is the only condition.
-/
import Derived.Test.YtbfdliogpheekaaRows
import Derived.WalkKit
import Derived.ProofKit
import Derived.OpenShut
import Derived.ShutString
import Derived.ChangeOld
import Derived.Below
import Derived.JoinedCond
import Derived.Test.YtbfdliogpheekaaOctQ
namespace Go.Proofs.Ytbfdliogpheekaa.octetBack
open Go.ChangeShapes Go.WideShapes Go.ChangeAt Go.RowKit
open Go.ChangeMaps (open_string shut_string)
set_option linter.unusedVariables false

theorem own : ownKnob Try.prog.godebug = none := by kernel_rfl
theorem laidOut : laidOutB Try.prog = true := by kernel_rfl

theorem enc_mass (l : List (List UInt8)) : (enc l).length ≤ 4 * mass l := by
  induction l with
  | nil => simp [enc]
  | cons s l ih =>
    have e : enc (s :: l) = be 4 s.length ++ s ++ enc l := by simp [enc]
    have e2 : mass (s :: l) = s.length + 1 + mass l := by simp [mass]
    rw [e, e2, List.length_append, List.length_append, be_len]
    omega

set_option maxRecDepth 100000 in
set_option maxHeartbeats 4000000 in
theorem walk (A0 : Option Addr) (b0 : List UInt8) (c0 : Nat) (A1 : Option Addr) (b1 : List UInt8) (c1 : Nat) (A2 : Option Addr) (b2 : List UInt8) (c2 : Nat) (A3 : Option Addr) (b3 : List UInt8) (c3 : Nat) (A4 : Option Addr) (b4 : List (List UInt8)) (c4 : Nat) (a5 : Int) (a6 : Int) (w : World) (w0 : Bytes w w.heap.size A0 b0) (u0 : b0.length ≤ 1048576) (l0 : b0.length ≤ c0) (m0 : c0 ≤ maxLen) (w1 : Bytes w w.heap.size A1 b1) (u1 : b1.length ≤ 1048576) (l1 : b1.length ≤ c1) (m1 : c1 ≤ maxLen) (w2 : Bytes w w.heap.size A2 b2) (u2 : b2.length ≤ 1048576) (l2 : b2.length ≤ c2) (m2 : c2 ≤ maxLen) (w3 : Bytes w w.heap.size A3 b3) (u3 : b3.length ≤ 1048576) (l3 : b3.length ≤ c3) (m3 : c3 ≤ maxLen) (w4 : Strs w w.heap.size A4 b4) (u4 : mass b4 ≤ 1048576) (l4 : b4.length ≤ c4) (m4 : c4 ≤ maxLen) (w5 : (Lit.int .u64 a5).wf = true) (w6 : (Lit.int .u8 a6).wf = true) :
    Calls Try.prog 5 #[.slice A0 b0.length c0, .slice A1 b1.length c1, .slice A2 b2.length c2, .slice A3 b3.length c3, .slice A4 b4.length c4, .int .u64 a5, .int .u8 a6] w fun e w' => e = .returned (.bool true) ∧ Below w.heap.size w w' := by
  have d5 := wf_u64 w5
  have d6 := wf_u8 w6
  clear w5 w6
  have hml := mass_len b4
  obtain ⟨n, rfl⟩ := Int.eq_ofNat_of_zero_le d5.1
  obtain ⟨z, rfl⟩ := Int.eq_ofNat_of_zero_le d6.1
  have hn : n ≤ 18446744073709551615 := by omega
  have hz : z ≤ 255 := by omega
  clear d5 d6
  by_cases hv : 4096 < b0.length + b1.length + b2.length + b3.length
  · have hv' : (4096 : Int) < (b0.length : Int) + (b1.length : Int) + (b2.length : Int) + (b3.length : Int) := by omega
    go_enter Try.func5, Try.ntmps5
    go_wp2_with fail
    refine (oworks_any _).mono ?_
    rintro e W2 ⟨rfl, hb2⟩
    go_wp2_with fail
    go_ret
    exact ⟨rfl, hb2⟩
  · have hv' : ¬ (4096 : Int) < (b0.length : Int) + (b1.length : Int) + (b2.length : Int) + (b3.length : Int) := by omega
    by_cases hm : 4096 < mass b4
    · go_enter Try.func5, Try.ntmps5
      go_wp2_with fail
      refine (ovast_any A4 _ c4 b4 _ w4 rfl u4).mono ?_
      rintro e W1 ⟨rfl, rfl⟩
      rw [decide_eq_true hm]
      go_wp2_with fail
      refine (oworks_any _).mono ?_
      rintro e W2 ⟨rfl, hb2⟩
      go_wp2_with fail
      go_ret
      exact ⟨rfl, hb2⟩
    · obtain ⟨k, hk, hkz⟩ := size_at z
      have hzi : ((z : Int) % 4) = ((z % 4 : Nat) : Int) := by omega
      have hz4 : z % 4 < 4 := by omega
      generalize z % 4 = y at hkz hzi hz4
      have hB := Blk.new w 3 sizeRow
      have hc : (w.alloc (.cells sizeRow 3)).cell? ⟨w.heap.size, y, none⟩ = some (.int .i64 (k : Int)) := by
        exact (hB.cell y).trans hkz
      have hg : ∀ h : y < [Value.int IntKind.i64 1, Value.int IntKind.i64 2, Value.int IntKind.i64 4, Value.int IntKind.i64 8].length, [Value.int IntKind.i64 1, Value.int IntKind.i64 2, Value.int IntKind.i64 4, Value.int IntKind.i64 8][y] = .int .i64 (k : Int) := by
        intro h
        have e : sizeRow[y]? = some ([Value.int IntKind.i64 1, Value.int IntKind.i64 2, Value.int IntKind.i64 4, Value.int IntKind.i64 8][y]) := by
          unfold sizeRow; simp [h]
        rw [hkz] at e; injection e with e; exact e.symm
      have hk8 : k = 8 ∨ k < 8 := by rcases hk with rfl | rfl | rfl | rfl <;> omega
      go_enter Try.func5, Try.ntmps5
      go_wp2_with fail
      refine (ovast_any A4 _ c4 b4 _ w4 rfl u4).mono ?_
      rintro e W1 ⟨rfl, rfl⟩
      rw [decide_eq_false hm]
      obtain ⟨hp1, hp2⟩ := size_pow hk
      have hbel : Below w.heap.size w (w.alloc (.cells #[.int .i64 1, .int .i64 2, .int .i64 4, .int .i64 8] 3)) := (Below.refl w.heap.size w).alloc (Nat.le_refl _) (.cells sizeRow 3)
      have hkb : k ≤ 8 := by omega
      rcases hk8 with hk8 | hk8
      case' inl =>
        have hlt : ¬ (k : Int) < 8 := by omega
        have hlo : n < 256 ^ k := by rw [hk8]; omega
        have hle : n ≤ top k := by omega
        have HL := Lib.hid hlo
        clear hk8 hp1 hp2 hlo
        go_wp2_with fail
        clear hg hc hB hkz hzi hlt
        generalize n = low at HL hle hn ⊢
      case' inr =>
        have hlt : (k : Int) < 8 := by omega
        have hsh := size_shift hk hk8
        have hM0 : ¬ ((256 ^ k : Nat) : Int) = 0 := by rw [hp2]; omega
        have hlo : n % 256 ^ k < 256 ^ k := Nat.mod_lt _ (by omega)
        have hmod : (n : Int) % ((256 ^ k : Nat) : Int) = ((n % 256 ^ k : Nat) : Int) := by omega
        have hle : n % 256 ^ k ≤ top k := by omega
        have hn' : n % 256 ^ k ≤ 18446744073709551615 := by omega
        clear hk8 hp1 hp2
        generalize n % 256 ^ k = low at hlo hle hn' hmod
        have HL := Lib.hid hlo
        clear hlo
        generalize 256 ^ k = M at hsh hM0 hmod
        go_wp2_with fail
        clear hg hc hB hkz hzi hlt hsh hM0 hn
        have hn := hn'
      all_goals
        generalize w.alloc (.cells #[.int .i64 1, .int .i64 2, .int .i64 4, .int .i64 8] 3) = W1 at hbel ⊢
        have hs1 := hbel.size
        have q0 := Reads.more (Reads.below w0 hbel) hs1
        have hbl : b0.length ≤ 4096 ∧ b1.length ≤ 4096 ∧ b2.length ≤ 4096 ∧ b3.length ≤ 4096 := by omega
        obtain ⟨hz0, hz1, hz2, hz3⟩ := hbl
        clear hv hv'
        refine (put_ok k hk A0 _ c0 b0 low W1 q0 rfl (by omega) hle (by omega)).mono ?_
        rintro e W2 ⟨A5, n5, c5, rfl, hn5, hown5, hb5⟩
        have hn5' : n5 = b0.length + k := by rw [hn5, List.length_append, be_len]
        have N5 := Lib.hid hn5
        have N5' := Lib.hid hn5'
        clear hn5 hn5' q0
        have hb2 := hbel.trans (hb5.mono hs1)
        have hs2 := hb2.size
        have x5 := (own_open hown5).1
        have y2 := Reads.more (Reads.below w2 hb2) hs2
        have hl5 : (b0 ++ be k low).length ≤ 1099511627776 := by rw [List.length_append, be_len]; omega
        clear hown5 hb5 hbel hs1
        go_wp2_with fail
        refine (putString_ok A5 A2 n5 c5 _ c2 (b0 ++ be k low) b2 W2 x5 N5.out y2 rfl hl5 (by omega)).mono ?_
        rintro e W3 ⟨A6, n6, c6, rfl, hn6, hown6, hb6⟩
        have hn6' : n6 = n5 + 4 + b2.length := by rw [hn6, N5'.out]; simp only [List.length_append, be_len]
        have N6 := Lib.hid hn6
        have N6' := Lib.hid hn6'
        clear hn6 hn6' y2 x5 hl5 N5
        have hb3 := hb2.trans (hb6.mono hs2)
        have hs3 := hb3.size
        have x6 := (own_open hown6).1
        have y1 := Reads.more (Reads.below w1 hb3) hs3
        clear hown6 hb6 hb2 hs2
        have hT : b0 ++ be k low ++ be 4 b2.length ++ b2 ++ b1 = laid b0 b1 b2 k low := rfl
        have hTl : (b0 ++ be k low ++ be 4 b2.length ++ b2).length ≤ 9000 := by simp only [List.length_append, be_len]; omega
        have hLl := laid_len b0 b1 b2 k low
        have hL1 := laid_num b0 b1 b2 k low HL.out
        have hL2 := laid_long b0 b1 b2 k low (by omega)
        have hL3 := laid_str b0 b1 b2 k low (by omega)
        rw [← N5'.out] at hL2 hL3
        generalize laid b0 b1 b2 k low = L at hT hLl hL1 hL2 hL3
        generalize b0 ++ be k low ++ be 4 b2.length ++ b2 = T at hT hTl N6 x6
        have HT := Lib.hid hT
        have L0 := Lib.hid hLl
        have L1 := Lib.hid hL1
        have L2 := Lib.hid hL2
        have L3 := Lib.hid hL3
        clear hT hLl hL1 hL2 hL3
        go_wp2_with (first
          | (at_builtin; refine wpList_ap2 rfl _ _ rfl rfl W3.heap.size (.slice (some ⟨W3.heap.size, 0, none⟩) 0 0) [] T T W3.heap.size A6 n6 c6 rfl rfl N6.out rfl (OwnB.made W3 _ 5 (Nat.le_refl _)) (Reads.alloc x6 (Nat.le_refl _) _) (by simp; omega) W3 ((Below.refl _ _).alloc (Nat.le_refl _) _) (by simp) ?_; intro A7 c7 n7 W4 e7 h7 hB7 hl7 hbel7 hs7 hg7; clear hg7 hl7 hB7)
          | (at_builtin; refine wpList_ap2 rfl _ _ rfl rfl W3.heap.size (.slice A7 n7 c7) T b1 L W4.heap.size A1 b1.length c1 rfl rfl rfl HT.out h7 (Reads.more (Reads.below y1 hbel7) hs7) (by omega) W3 hbel7 hs7 ?_; intro A8 c8 n8 W5 e8 h8 hB8 hl8 hbel8 hs8 hg8; clear hg8 h7 hbel7 hs7 e7; have hr8 := (own_open h8).1; have hc8 := (own_open h8).2.1; have hm8 := (own_open h8).2.2.1))
        have hb5 := hb3.trans (hbel8.mono hs3)
        have hs5 := hb5.size
        clear h8 hbel8 hs8 x6 y1 hb3 hs3 HT N6 hTl
        have hLm : L.length ≤ maxLen := hl8
        have hLk : L.length = b0.length + k + 4 + b2.length + b1.length := L0.out
        have hLn : L.length = n5 + 4 + b2.length + b1.length := by rw [hLk, N5'.out]
        refine (take_ok k hk A8 n8 c8 L b0.length W5 hr8 e8.out hc8 hl8 (by omega)).mono ?_
        rintro e W6 ⟨rfl, rfl⟩
        rw [L1.out]
        have LN := Lib.hid hLn
        clear hLk hLn hl8
        have p1 : (((b0.length : Int) + (k : Int)) != (n5 : Int)) = false := by have := N5'.out; simp only [bne_eq_false_iff_eq]; omega
        have p2 : (((n5 : Int) + 4 + (b2.length : Int)) != (n6 : Int)) = false := by have := N6'.out; simp only [bne_eq_false_iff_eq]; omega
        go_wp2_with fail
        refine (takeString_n A8 n8 c8 L b2 n5 W5 hr8 e8.out hc8 hLm hm8 L2 L3 (by have := LN.out; omega)).mono ?_
        rintro e W6 ⟨A9, n9, c9, rfl, hn9, hown9, hb9⟩
        rw [show ((n5 + 4 + b2.length : Nat) : Int) = (n5 : Int) + 4 + (b2.length : Int) by omega]
        have N9 := Lib.hid hn9
        clear hn9
        have hb6 := hb5.trans (hb9.mono hs5)
        have hs6 := hb6.size
        have x9 := (own_open hown9).1
        have y2 := Reads.more (Reads.below w2 hb6) hs6
        have q1 := str_n W6 _ A9 n9 c9 _ x9 N9.out
        have q2 := str_n W6 _ A2 b2.length c2 _ y2 rfl
        generalize strB b2 = X1 at q1 q2
        have z4 := (w4.below hb6).more hs6
        clear hown9 hb9 x9 y2 hb5 hs5 hr8 hc8 hm8
        go_wp2_with fail
        clear q1 q2 p1 p2
        have hes : ∀ s ∈ b4, s.length ≤ 4096 := fun s hs => by have := mass_mem b4 s hs; omega
        have HES := Lib.hid hes
        have hel : (enc b4).length ≤ 20000 := by
          have : (enc b4).length ≤ 4 * mass b4 := enc_mass b4
          omega
        have hbm : b4.length ≤ maxLen := by unfold maxLen; omega
        clear hes
        refine (strings_ok A4 _ c4 b4 W6 z4 rfl hbm (fun s hs => Nat.le_trans (HES.out s hs) (by omega)) (by omega)).mono ?_
        rintro e W7 ⟨AB, nB, cB, rfl, hnB, hownB, hbB⟩
        have NB := Lib.hid hnB
        clear hnB
        have hb7 := hb6.trans (hbB.mono hs6)
        have hs7 := hb7.size
        have rB := (own_open hownB).1
        have cB1 := (own_open hownB).2.1
        have cB2 := (own_open hownB).2.2.1
        clear hownB hbB z4
        go_wp2_with fail
        refine (split_whole AB nB cB b4 4096 W7 rB NB.out cB1 (by omega) cB2 (by omega) HES.out).mono ?_
        rintro e W8 ⟨AC, nC, cC, rfl, hnC, hSC, hbC⟩
        have NC := Lib.hid hnC
        clear hnC
        have hb8 := hb7.trans (hbC.mono hs7)
        have hs8 := hb8.size
        have zC := hSC.strs.1
        have z4 := (w4.below hb8).more hs8
        clear hSC hbC rB hb7 hs7 cB1 cB2
        go_wp2_with fail
        refine (same_yes A4 AC b4.length nC c4 cC b4 W8 z4 zC rfl NC.out hbm).mono ?_
        rintro e W9 ⟨rfl, hbD⟩
        have hb9 := hb8.trans (hbD.mono hs8)
        have hs9 := hb9.size
        have y3 := Reads.more (Reads.below w3 hb9) hs9
        clear hbD z4 zC hb8 hs8
        go_wp2_with fail
        refine (split_back A3 c3 b3 4096 W9 y3 l3 (by omega) m3 (by omega)).mono ?_
        rintro e WA (⟨AD, nD, cD, lD, rfl, hnD, hED, hSD, hbD⟩ | ⟨AD, cD, E, rfl, hE, hbD⟩)
        case' inr =>
          have hbA := hb9.trans (hbD.mono hs9)
          have hsA := hbA.size
          clear y3 hbD hb9 hs9
          rcases hE with rfl | rfl
        case' inl =>
          have hbA := hb9.trans (hbD.mono hs9)
          have hsA := hbA.size
          have zD := hSD.strs.1
          have ND := Lib.hid hnD
          have ED := Lib.hid hED
          have hlD : ∀ s ∈ lD, s.length ≤ 4194304 := fun s hs => by have := enc_mem lD s hs; rw [hED] at this; omega
          have HLD := Lib.hid hlD
          have hlD2 : lD.length ≤ maxLen := by have := enc_long lD; rw [hED] at this; unfold maxLen; omega
          clear y3 hbD hb9 hs9 hSD hnD hED hlD
          go_wp2_with fail
          refine (strings_ok AD nD cD lD WA zD ND.out hlD2 HLD.out (by rw [ED.out]; omega)).mono ?_
          rintro e WB ⟨AE, nE, cE, rfl, hnE, hownE, hbE⟩
          rw [ED.out] at hnE hownE
          have NE := Lib.hid hnE
          have hbB := hbA.trans (hbE.mono hsA)
          have hsB := hbB.size
          have rE := (own_open hownE).1
          have y3 := Reads.more (Reads.below w3 hbB) hsB
          have q1 := str_n WB _ AE nE cE _ rE NE.out
          have q2 := str_n WB _ A3 b3.length c3 _ y3 rfl
          generalize strB b3 = X2 at q1 q2
          clear hnE hownE hbE hbA hsA zD rE y3 ND ED HLD hlD2
          have hbA := hbB
          have hsA := hsB
        all_goals
          go_wp2_with fail
          refine (oworks_any _).mono ?_
          rintro e WZ ⟨rfl, hbZ⟩
          go_wp2_with fail
          go_ret
          exact ⟨rfl, hbA.trans (hbZ.mono hsA)⟩

set_option maxRecDepth 100000 in
theorem lifted (os : Os) (started : os.Started) (H : Type) (enc : TypeId × Value → H) (F : Stop.Interp) :
    ReturnsInHanded {} Try.checked os 5 .any ((Rows.OpenSpec.upto Rows.octetBackSpec).pre6 enc Try.prog Try.f5 Rows.octetBackUptoRow.domain false) (((Rows.OpenSpec.upto Rows.octetBackSpec).at F).post enc Try.prog Try.f5 false true false false) := by
  refine returnsInHanded_of_cond (C := Try.checked) (s := Rows.OpenSpec.upto Rows.octetBackSpec) (k := Rows.uptoSmall) rfl own started (by kernel_rfl) Try.func5
    (OpenSpec.witness (enc := enc) (C := Try.checked) (s := Rows.OpenSpec.upto Rows.octetBackSpec) (k := Rows.uptoSmall) rfl false ⟨#[], #[.slice none 0 0, .slice none 0 0, .slice none 0 0, .slice none 0 0, .slice none 0 0, .int .u64 0, .int .u8 0], []⟩ 8 (by kernel_rfl) (by kernel_rfl) (by kernel_rfl)
      (x := ([.nil, .nil, .nil, .nil, .nil, .lit (.int .u64 0), .lit (.int .u8 0)], [], [])) (by kernel_rfl) rfl (by kernel_rfl)) ?_
  intro W base args ds gs before hval0 hW hcnd hk _
  have hval : ∀ (j : Nat) t v, Try.f5.params[j]? = some t → args[j]? = some v → Value.okWide Try.prog W .any base t v := hval0
  have hW' : DataW.Whole enc Try.prog Try.f5.params.toList Rows.octetBackSpec.vars false W args.toList ds gs before := hW
  show Calls Try.prog 5 args W fun e W' => ∃ v, e = .returned v ∧ Rows.octetBackSpec.post enc Try.prog Try.f5 false true false false W args v W'
  obtain ⟨p, q, hA0, hV, rfl, hfz, hnd⟩ := hW
  have hA : DataW.TrodAll enc Try.prog W 0 (fun _ => true) true Try.f5.params.toList args.toList ds p := hA0
  rw [Try.params5] at hA hval
  obtain ⟨v0, vs0, d0, ds0, p0, q0, hargs, rfl, rfl, h0, r0⟩ := trodAll_cons hA
  obtain ⟨v1, vs1, d1, ds1, p1, q1, rfl, rfl, rfl, h1, r1⟩ := trodAll_cons r0
  obtain ⟨v2, vs2, d2, ds2, p2, q2, rfl, rfl, rfl, h2, r2⟩ := trodAll_cons r1
  obtain ⟨v3, vs3, d3, ds3, p3, q3, rfl, rfl, rfl, h3, r3⟩ := trodAll_cons r2
  obtain ⟨v4, vs4, d4, ds4, p4, q4, rfl, rfl, rfl, h4, r4⟩ := trodAll_cons r3
  obtain ⟨v5, vs5, d5, ds5, p5, q5, rfl, rfl, rfl, h5, r5⟩ := trodAll_cons r4
  obtain ⟨v6, vs6, d6, ds6, p6, q6, rfl, rfl, rfl, h6, r6⟩ := trodAll_cons r5
  obtain ⟨rfl, rfl, rfl⟩ := trodAll_nil r6
  obtain rfl : args = #[v0, v1, v2, v3, v4, v5, v6] := by cases args; simp_all
  obtain ⟨rfl, rfl⟩ := trodVars_none hV
  have hk' : Rows.uptoSmall H ([d0, d1, d2, d3, d4, d5, d6] ++ []) = true := hk
  obtain ⟨A0, n0, c0, rfl⟩ := okWide_slice Try.underlying22 (hval 0 22 v0 rfl rfl)
  have k0 := h0
  have lt0 : ∀ x ∈ p0, x.block < W.heap.size := by obtain ⟨m, hm⟩ := k0; exact DataW.trod_lt m _ _ _ hm
  obtain ⟨z0, x0, u0⟩ : ∃ zs, IsRow .u8 W A0 n0 c0 zs ∧ n0 ≤ 1048576 := by
    obtain ⟨fuel, hf⟩ := h0
    rcases open_ints Try.underlying22 Try.underlying5 (by kernel_rfl) hf with ⟨hcs, _⟩ | ⟨x, l, c, zs, hcs, _, hl, hm, hz, hdx, hcell, hwz⟩
    · simp [Value.cells] at hcs
      obtain ⟨rfl, rfl, rfl⟩ := hcs
      exact ⟨[], .inl ⟨rfl, rfl, rfl, rfl⟩, by omega⟩
    · simp [Value.cells] at hcs
      obtain ⟨rfl, rfl, rfl⟩ := hcs
      obtain ⟨hd, _⟩ := Prod.mk.inj hdx
      have hz' : zs.length = c0 := by simpa using hz
      exact ⟨zs, .inr ⟨_, rfl, hl, hm, hz', hcell, hwz⟩, bytes_bulk hk' (j := 0) (congrArg some hd) (by omega)⟩
  obtain ⟨b0, rfl, w0, l0, m0⟩ := row_bytes x0
  obtain ⟨A1, n1, c1, rfl⟩ := okWide_slice Try.underlying22 (hval 1 22 v1 rfl rfl)
  have k1 := h1
  have lt1 : ∀ x ∈ p1, x.block < W.heap.size := by obtain ⟨m, hm⟩ := k1; exact DataW.trod_lt m _ _ _ hm
  obtain ⟨z1, x1, u1⟩ : ∃ zs, IsRow .u8 W A1 n1 c1 zs ∧ n1 ≤ 1048576 := by
    obtain ⟨fuel, hf⟩ := h1
    rcases open_ints Try.underlying22 Try.underlying5 (by kernel_rfl) hf with ⟨hcs, _⟩ | ⟨x, l, c, zs, hcs, _, hl, hm, hz, hdx, hcell, hwz⟩
    · simp [Value.cells] at hcs
      obtain ⟨rfl, rfl, rfl⟩ := hcs
      exact ⟨[], .inl ⟨rfl, rfl, rfl, rfl⟩, by omega⟩
    · simp [Value.cells] at hcs
      obtain ⟨rfl, rfl, rfl⟩ := hcs
      obtain ⟨hd, _⟩ := Prod.mk.inj hdx
      have hz' : zs.length = c1 := by simpa using hz
      exact ⟨zs, .inr ⟨_, rfl, hl, hm, hz', hcell, hwz⟩, bytes_bulk hk' (j := 1) (congrArg some hd) (by omega)⟩
  obtain ⟨b1, rfl, w1, l1, m1⟩ := row_bytes x1
  obtain ⟨A2, n2, c2, rfl⟩ := okWide_slice Try.underlying22 (hval 2 22 v2 rfl rfl)
  have k2 := h2
  have lt2 : ∀ x ∈ p2, x.block < W.heap.size := by obtain ⟨m, hm⟩ := k2; exact DataW.trod_lt m _ _ _ hm
  obtain ⟨z2, x2, u2⟩ : ∃ zs, IsRow .u8 W A2 n2 c2 zs ∧ n2 ≤ 1048576 := by
    obtain ⟨fuel, hf⟩ := h2
    rcases open_ints Try.underlying22 Try.underlying5 (by kernel_rfl) hf with ⟨hcs, _⟩ | ⟨x, l, c, zs, hcs, _, hl, hm, hz, hdx, hcell, hwz⟩
    · simp [Value.cells] at hcs
      obtain ⟨rfl, rfl, rfl⟩ := hcs
      exact ⟨[], .inl ⟨rfl, rfl, rfl, rfl⟩, by omega⟩
    · simp [Value.cells] at hcs
      obtain ⟨rfl, rfl, rfl⟩ := hcs
      obtain ⟨hd, _⟩ := Prod.mk.inj hdx
      have hz' : zs.length = c2 := by simpa using hz
      exact ⟨zs, .inr ⟨_, rfl, hl, hm, hz', hcell, hwz⟩, bytes_bulk hk' (j := 2) (congrArg some hd) (by omega)⟩
  obtain ⟨b2, rfl, w2, l2, m2⟩ := row_bytes x2
  obtain ⟨A3, n3, c3, rfl⟩ := okWide_slice Try.underlying22 (hval 3 22 v3 rfl rfl)
  have k3 := h3
  have lt3 : ∀ x ∈ p3, x.block < W.heap.size := by obtain ⟨m, hm⟩ := k3; exact DataW.trod_lt m _ _ _ hm
  obtain ⟨z3, x3, u3⟩ : ∃ zs, IsRow .u8 W A3 n3 c3 zs ∧ n3 ≤ 1048576 := by
    obtain ⟨fuel, hf⟩ := h3
    rcases open_ints Try.underlying22 Try.underlying5 (by kernel_rfl) hf with ⟨hcs, _⟩ | ⟨x, l, c, zs, hcs, _, hl, hm, hz, hdx, hcell, hwz⟩
    · simp [Value.cells] at hcs
      obtain ⟨rfl, rfl, rfl⟩ := hcs
      exact ⟨[], .inl ⟨rfl, rfl, rfl, rfl⟩, by omega⟩
    · simp [Value.cells] at hcs
      obtain ⟨rfl, rfl, rfl⟩ := hcs
      obtain ⟨hd, _⟩ := Prod.mk.inj hdx
      have hz' : zs.length = c3 := by simpa using hz
      exact ⟨zs, .inr ⟨_, rfl, hl, hm, hz', hcell, hwz⟩, bytes_bulk hk' (j := 3) (congrArg some hd) (by omega)⟩
  obtain ⟨b3, rfl, w3, l3, m3⟩ := row_bytes x3
  obtain ⟨A4, n4, c4, rfl⟩ := okWide_slice Try.underlying33 (hval 4 33 v4 rfl rfl)
  have k4 := h4
  have lt4 : ∀ x ∈ p4, x.block < W.heap.size := by obtain ⟨m, hm⟩ := k4; exact DataW.trod_lt m _ _ _ hm
  obtain ⟨b4, rfl, w4, u4, l4, m4⟩ : ∃ l : List (List UInt8), n4 = l.length ∧ Strs W W.heap.size A4 l ∧ mass l ≤ 1048576 ∧ n4 ≤ c4 ∧ c4 ≤ maxLen := by
    obtain ⟨fuel, hf⟩ := h4
    rcases Deep.open_int_rows Try.underlying33 Try.underlying22 Try.underlying5 (by kernel_rfl) (by kernel_rfl) hf with ⟨hcs, _⟩ | ⟨a, len, cap, A, L, C, Z, hcs, _, hl, hm, hdx, hcell⟩
    · simp [Value.cells] at hcs
      obtain ⟨rfl, rfl, rfl⟩ := hcs
      exact ⟨[], rfl, Strs.none_, by decide, Nat.le_refl _, by decide⟩
    · simp [Value.cells] at hcs
      obtain ⟨rfl, rfl, rfl⟩ := hcs
      obtain ⟨hd, _⟩ := Prod.mk.inj hdx
      obtain ⟨l, h1, h2⟩ := strs_of hl (fun r hr => by
        obtain ⟨x1, x2, x3, x4, x5, x6, x7⟩ := hcell r hr
        exact ⟨x1, x2, x3, x4, x5, x6, fun a' ha => (x7 a' ha).2⟩)
      refine ⟨l, h1, h2, ?_, hl, hm⟩
      rw [h1] at hd hl
      exact rows_bulk hk' (j := 4) (congrArg some hd) h2 (fun r hr => by
        obtain ⟨x1, x2, _, x4, _, x6, _⟩ := hcell r (by omega)
        exact ⟨x1, x2, x4, x6⟩)
  obtain ⟨a5, rfl, rfl, rfl, w5⟩ := open_int Try.underlying23 (hval 5 23 v5 rfl rfl) h5
  obtain ⟨a6, rfl, rfl, rfl, w6⟩ := open_int Try.underlying5 (hval 6 5 v6 rfl rfl) h6
  clear hA0 hval0
  refine (walk A0 b0 c0 A1 b1 c1 A2 b2 c2 A3 b3 c3 A4 b4 c4 a5 a6 W w0 u0 l0 m0 w1 u1 l1 m1 w2 u2 l2 m2 w3 u3 l3 m3 w4 u4 l4 m4 w5 w6).mono fun e W' ⟨he, bel⟩ => ?_
  subst he
  exact ⟨_, rfl, _, _, _, [], _, [], hW', trodAll_mk1 (shut_bool Try.underlying4 _), (trodAll_cons_mk (Below.trod laidOut (by kernel_rfl) (of_decide_eq_true (by kernel_rfl)) k0 bel lt0) (trodAll_cons_mk (Below.trod laidOut (by kernel_rfl) (of_decide_eq_true (by kernel_rfl)) k1 bel lt1) (trodAll_cons_mk (Below.trod laidOut (by kernel_rfl) (of_decide_eq_true (by kernel_rfl)) k2 bel lt2) (trodAll_cons_mk (Below.trod laidOut (by kernel_rfl) (of_decide_eq_true (by kernel_rfl)) k3 bel lt3) (trodAll_cons_mk (Below.trod laidOut (by kernel_rfl) (of_decide_eq_true (by kernel_rfl)) k4 bel lt4) (trodAll_cons_mk (shut_int Try.underlying23 w5) (trodAll_cons_mk (shut_int Try.underlying5 w6) trodAll_mk0))))))), rfl, bel.frame _, fun h => by cases h⟩

theorem proved : Rows.OctetBackUptoSaid :=
  OpenClaim.holds_of_cond 5 Try.f5 rfl rfl rfl rfl rfl rfl rfl ⟨rfl, rfl, rfl, rfl, rfl⟩ rfl rfl rfl rfl rfl (by kernel_rfl) Try.func5 (by kernel_rfl)
    (of_decide_eq_true (by kernel_rfl)) (by unfold Func.isWrapper; first | (rw [if_pos (by decide +kernel)]; kernel_rfl) | (rw [if_neg (by decide +kernel)]; exact ⟨rfl, rfl⟩))
    (fun os started H enc _ F => lifted os started H enc F)
#print axioms proved
end Go.Proofs.Ytbfdliogpheekaa.octetBack
