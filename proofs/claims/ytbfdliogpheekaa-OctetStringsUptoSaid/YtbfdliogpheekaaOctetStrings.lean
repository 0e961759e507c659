/-
  OctetStrings, up to a bulk of 1048576 of what comes in: strings put, taken and split are what the document says, in new memory. The bulk's bound is the only condition.
-/
import Derived.Test.YtbfdliogpheekaaRows
import Derived.WalkKit
import Derived.ProofKit
import Derived.OpenShut
import Derived.ShutString
import Derived.ChangeOld
import Derived.Below
import Derived.JoinedCond
import Derived.Test.YtbfdliogpheekaaOctZ
namespace Go.Proofs.Ytbfdliogpheekaa.octetStrings
open Go.ChangeShapes Go.WideShapes Go.ChangeAt Go.RowKit
open Go.ChangeMaps (open_string shut_string)
set_option linter.unusedVariables false

theorem own : ownKnob Try.prog.godebug = none := by kernel_rfl
theorem laidOut : laidOutB Try.prog = true := by kernel_rfl

theorem enc_mass (l : List (List UInt8)) : (enc l).length ≤ 4 * mass l := by
  induction l with
  | nil => simp [enc]
  | cons s l ih =>
    have e : enc (s :: l) = be 4 s.length ++ s ++ enc l := by simp [enc]
    have e2 : mass (s :: l) = s.length + 1 + mass l := by simp [mass]
    rw [e, e2, List.length_append, List.length_append, be_len]
    omega
theorem val_one (b : UInt8) : Value.int .u8 (bits .xor .u8 (b.toNat : Int) 1) = .int .u8 ((b ^^^ 1).toNat : Int) := by
  rw [show (1 : Int) = ((1 : Nat) : Int) from rfl, u8_xor_nat _ _ (UInt8.toNat_lt b) (by omega), UInt8.toNat_xor]; rfl

set_option maxRecDepth 100000 in
set_option maxHeartbeats 4000000 in
theorem walk (A0 : Option Addr) (b0 : List UInt8) (c0 : Nat) (A1 : Option Addr) (b1 : List UInt8) (c1 : Nat) (A2 : Option Addr) (b2 : List (List UInt8)) (c2 : Nat) (a3 : Int) (a4 : Int) (w : World) (w0 : Bytes w w.heap.size A0 b0) (u0 : b0.length ≤ 1048576) (l0 : b0.length ≤ c0) (m0 : c0 ≤ maxLen) (w1 : Bytes w w.heap.size A1 b1) (u1 : b1.length ≤ 1048576) (l1 : b1.length ≤ c1) (m1 : c1 ≤ maxLen) (w2 : Strs w w.heap.size A2 b2) (u2 : mass b2 ≤ 1048576) (l2 : b2.length ≤ c2) (m2 : c2 ≤ maxLen) (w3 : (Lit.int .i64 a3).wf = true) (w4 : (Lit.int .i64 a4).wf = true) :
    Calls Try.prog 4 #[.slice A0 b0.length c0, .slice A1 b1.length c1, .slice A2 b2.length c2, .int .i64 a3, .int .i64 a4] w fun e w' => e = .returned (.bool true) ∧ Below w.heap.size w w' := by
  have d3 := wf_i64 w3
  have d4 := wf_i64 w4
  clear w3 w4
  have hml := mass_len b2
  by_cases hv : 4096 < b0.length + b1.length
  · have hv' : (4096 : Int) < (b0.length : Int) + (b1.length : Int) := by omega
    go_enter Try.func4, Try.ntmps4
    go_wp2_with fail
    refine (oworks_any _).mono ?_
    rintro e W2 ⟨rfl, hb2⟩
    go_wp2_with fail
    go_ret
    exact ⟨rfl, hb2⟩
  · have hv' : ¬ (4096 : Int) < (b0.length : Int) + (b1.length : Int) := by omega
    by_cases hm : 4096 < mass b2
    · go_enter Try.func4, Try.ntmps4
      go_wp2_with fail
      refine (ovast_any A2 _ c2 b2 _ w2 rfl u2).mono ?_
      rintro e W1 ⟨rfl, rfl⟩
      rw [decide_eq_true hm]
      go_wp2_with fail
      refine (oworks_any _).mono ?_
      rintro e W2 ⟨rfl, hb2⟩
      go_wp2_with fail
      go_ret
      exact ⟨rfl, hb2⟩
    · have hl0 : b0.length ≤ 1099511627776 := by omega
      have hl1 : b1.length ≤ 4194304 := by omega
      obtain ⟨S, N, E, ht1, ht2⟩ := takeStrings_same b0 a3 a4 hl0 d4
      have T1 := Lib.hid ht1
      have T2 := Lib.hid ht2
      clear ht1 ht2
      have hes : ∀ s ∈ b2, s.length ≤ 4194304 := fun s hs => by have := mass_mem b2 s hs; omega
      have hel : (enc b2).length ≤ 137438953472 := by
        have : (enc b2).length ≤ 4 * mass b2 := enc_mass b2
        omega
      have HES := Lib.hid hes
      clear hes
      go_enter Try.func4, Try.ntmps4
      go_wp2_with fail
      refine (ovast_any A2 _ c2 b2 _ w2 rfl u2).mono ?_
      rintro e W1 ⟨rfl, rfl⟩
      rw [decide_eq_false hm]
      go_wp2_with fail
      refine (roomy_any A0 c0 b0 _ w0 hl0).mono ?_
      rintro e W1 ⟨rfl, rfl⟩
      have hB := Blk.new w 5 (room b0)
      have hbel := (Below.refl w.heap.size w).alloc (Nat.le_refl _) (.cells (room b0) 5)
      generalize w.alloc (.cells (room b0) 5) = W1 at hB hbel ⊢
      have hs1 := hbel.size
      have hlt := hB.lt
      have z1 := (w2.below hbel).more hs1
      go_wp2_with fail
      refine (copy_any A2 _ c2 b2 W1 z1 rfl u2).mono ?_
      rintro e W2 ⟨Am, nm, cm, rfl, hnm, hSm, hb2⟩
      have NM := Lib.hid hnm
      clear hnm
      have hB2 := hB.below hb2 hlt
      have hbel2 := hbel.trans (hb2.mono hs1)
      have hs2 := hbel2.size
      have y2 := Reads.more (Reads.below w1 hbel2) hs2
      go_wp2_with fail
      refine (putString_ok _ A1 _ _ _ c1 b0 b1 W2 (room_bytes W2 _ b0 hB2) rfl y2 rfl hl0 hl1).mono ?_
      rintro e W3 ⟨A3, n3, c3, rfl, hn3, hown3, hb3⟩
      have x3 := (own_open hown3).1
      have N3 := Lib.hid hn3
      clear hn3 hown3
      have hB3 := hB2.below hb3 hB2.lt
      have hSm3 := hSm.below hb3
      have hbel3 := hbel2.trans (hb3.mono hs2)
      have hs3 := hbel3.size
      have y3 := Reads.more (Reads.below w1 hbel3) hs3
      have q3 := Reads.more (Reads.below w0 hbel3) hs3
      go_wp2_with fail
      refine (rputString_ok A0 A1 _ c0 _ c1 b0 b1 W3 q3 rfl y3 rfl hl0 hl1).mono ?_
      rintro e W4 ⟨A4, n4, c4, rfl, hn4, x4, hb4⟩
      have N4 := Lib.hid hn4
      clear hn4
      have x3' := Reads.more (Reads.below x3 hb4) hb4.size
      have hB4 := hB3.below hb4 hB3.lt
      have hSm4 := hSm3.below hb4
      have hbel4 := hbel3.trans (hb4.mono hs3)
      have hs4 := hbel4.size
      have z4 := hSm4.strs.1
      go_wp2_with fail
      refine (strings_ok Am _ cm b2 W4 z4 NM.out (by unfold maxLen; omega) HES.out hel).mono ?_
      rintro e W5 ⟨A5, n5, c5, rfl, hn5, hown5, hb5⟩
      have x5 := (own_open hown5).1
      have N5 := Lib.hid hn5
      clear hn5 hown5
      have x3'' := Reads.more (Reads.below x3' hb5) hb5.size
      have x4' := Reads.more (Reads.below x4 hb5) hb5.size
      have hB5 := hB4.below hb5 hB4.lt
      have hSm5 := hSm4.below hb5
      have hbel5 := hbel4.trans (hb5.mono hs4)
      have hs5 := hbel5.size
      have z5 := (w2.below hbel5).more hs5
      go_wp2_with fail
      refine (rstrings_ok A2 _ c2 b2 W5 z5 rfl (by unfold maxLen; omega) HES.out hel).mono ?_
      rintro e W6 ⟨A6, n6, c6, rfl, hn6, x6, hb6⟩
      have N6 := Lib.hid hn6
      clear hn6
      have x3b := Reads.more (Reads.below x3'' hb6) hb6.size
      have x4b := Reads.more (Reads.below x4' hb6) hb6.size
      have x5b := Reads.more (Reads.below x5 hb6) hb6.size
      have hB6 := hB5.below hb6 hB5.lt
      have hSm6 := hSm5.below hb6
      have hbel6 := hbel5.trans (hb6.mono hs5)
      have hs6 := hbel6.size
      clear hB hB2 hB3 hB4 hB5 hSm hSm3 hSm4 hSm5 z1 z4 z5 x3 x3' x3'' x4 x4' x5 y2 y3 q3
      have R0 := room_bytes W6 _ b0 hB6
      go_wp2_with fail
      refine (T1.out _ _ W6 R0 (by omega) (by unfold maxLen; omega)).mono ?_
      rintro e W7 ⟨A7, n7, c7, rfl, hn7, hown7, hb7⟩
      have N7 := Lib.hid hn7
      clear hn7
      have hs7 := hb7.size
      have q7 := Reads.more (Reads.below w0 (hbel6.trans (hb7.mono hs6))) (hbel6.trans (hb7.mono hs6)).size
      go_wp2_with fail
      refine (T2.out A0 c0 W7 q7 l0 m0).mono ?_
      rintro e W8 ⟨A8, n8, c8, rfl, hn8, hown8, hb8⟩
      have N8 := Lib.hid hn8
      clear hn8
      have x8 := (own_open hown8).1
      clear hown8
      have hx7 : ∀ k, (Value.slice A7 n7 c7).ownBlock = some k → k < W8.heap.size := fun k hk => Nat.lt_of_lt_of_le (World.ownsRow.lt hown7 k hk).2 hb8.size
      have hown7b := own_below hown7 hb8
      have hb78 := hb7.trans (hb8.mono hs7)
      have hs8 := hb78.size
      have R8 := Reads.more (Reads.below R0 hb78) hs8
      go_wp2_with fail
      refine (split_any _ _ b0 a4 W8 R8 (by omega) hl0 (by unfold maxLen; omega) d4).mono ?_
      rintro e W9 ⟨A9, n9, c9, rfl, hn9, hS9, hb9⟩
      have N9 := Lib.hid hn9
      clear hn9
      have x8b := Reads.more (Reads.below x8 hb9) hb9.size
      have hown7c := own_below hown7b hb9
      have hb79 := hb78.trans (hb9.mono hs8)
      have hs9 := hb79.size
      have q9 := Reads.more (Reads.below w0 (hbel6.trans (hb79.mono hs6))) (hbel6.trans (hb79.mono hs6)).size
      go_wp2_with fail
      refine (rsplit_any A0 c0 b0 a4 W9 q9 l0 hl0 m0 d4).mono ?_
      rintro e WA ⟨AA, nA, cA, rfl, hnA, hSA, hbA⟩
      have NA := Lib.hid hnA
      clear hnA
      have hSA' := hSA.strs.1
      clear hSA
      have x8c := Reads.more (Reads.below x8b hbA) hbA.size
      have hown7d := own_below hown7c hbA
      have hS9b := hS9.below hbA
      have hb7A := hb79.trans (hbA.mono hs9)
      have hsA := hb7A.size
      have x3c := Reads.more (Reads.below x3b hb7A) hsA
      have x4c := Reads.more (Reads.below x4b hb7A) hsA
      have x5c := Reads.more (Reads.below x5b hb7A) hsA
      have x6c := Reads.more (Reads.below x6 hb7A) hsA
      clear x3b x4b x5b x6 x8 x8b hown7 hown7b hown7c hS9 R8 q7 q9
      have x7d := (own_open hown7d).1
      have hst9 := hS9b.strs
      have x9 := hst9.1
      have hlm : (splR b0 a4).2.length ≤ maxLen := by rw [← hst9.2.1]; exact Nat.le_trans hst9.2.2.1 hst9.2.2.2
      clear hst9
      generalize splR b0 a4 = SP at hlm x9 hSA' hS9b N9 NA ⊢
      have q1 := str_n WA _ A3 n3 c3 _ x3c N3.out
      have q2 := str_n WA _ A4 n4 c4 _ x4c N4.out
      have q3 := str_n WA _ A5 n5 c5 _ x5c N5.out
      have q4 := str_n WA _ A6 n6 c6 _ x6c N6.out
      have q5 := str_n WA _ A7 n7 c7 _ x7d N7.out
      have q6 := str_n WA _ A8 n8 c8 _ x8c N8.out
      generalize strB (b0 ++ be 4 b1.length ++ b1) = X1 at q1 q2
      generalize strB (enc b2) = X2 at q3 q4
      generalize strB S = X3 at q5 q6
      clear x3c x4c x5c x6c x8c x7d
      go_wp2_with fail
      refine (same_yes A9 AA n9 nA c9 cA SP.2 WA x9 hSA' N9.out NA.out hlm).mono ?_
      rintro e WB ⟨rfl, hbB⟩
      have hown7e := own_below hown7d hbB
      have hS9c := hS9b.below hbB
      have hb7B := hb7A.trans (hbB.mono hsA)
      have hsB := hb7B.size
      clear hown7d hS9b x9 hSA' q1 q2 q3 q4 q5 q6
      obtain ⟨xs, hxl, hH⟩ := hS9c.held
      have NX := Lib.hid (N9.out.trans hxl.symm)
      have hS7 : Some8 WB W6.heap.size A7 n7 c7 := ⟨S, N7.out, hown7e⟩
      have hnx : xs.length ≤ maxLen := by rw [hxl]; exact hlm
      clear hown7e hS9c hxl N9
      go_wp2_with fail
      go_loopw [31] (fun i wr => ∃ k : Nat, k ≤ n7 ∧ i = .int .i64 k ∧ Some8 wr W6.heap.size A7 n7 c7 ∧ Held wr W8.heap.size (.slice A9 n9 c9) xs ∧ Below W6.heap.size W6 wr) (fun i _ => n7 - (intOf i).toNat)
      case atStart => exact ⟨0, by omega, rfl, hS7, hH, hb7B⟩
      case round =>
        clear hS7 hH
        obtain ⟨k, hk, rfl, hx, hH, hbw⟩ := hrel
        by_cases hlt : k < n7
        · obtain ⟨g, b, rfl, hg1, hg2, hcell, hfz, hnc, hcm⟩ := hx.at_ hlt
          have hgx := hx7 g rfl
          have hcm' := hcm
          unfold maxLen at hcm'
          have hrow : (Value.slice A9 n9 c9).ownBlock ≠ some g := fun e => by have := (World.ownsRow.lt hH.1 g e).1; omega
          clear hx7
          go_wp2_with fail
          go_roundw
          case rel => exact ⟨k + 1, by omega, by go_num, hx.set_ g k _ _ (val_one b), hH.set_ g k _ _ (val_one b) hrow, hbw.setCell hg1 _⟩
          case measure => simp [intOf]; omega
        · go_wp2_with fail
          clear hx hlt hx7
          go_loopw [32] (fun i wr2 => ∃ j : Nat, j ≤ n9 ∧ i = .int .i64 j ∧ Held wr2 W8.heap.size (.slice A9 n9 c9) xs ∧ Below W6.heap.size W6 wr2) (fun i _ => n9 - (intOf i).toNat)
          case atStart => exact ⟨0, by omega, rfl, hH, hbw⟩
          case round =>
            clear hH hbw
            obtain ⟨j, hj, rfl, hH, hbw⟩ := hrel
            by_cases hlt : j < n9
            · have hjx : j < xs.length := by rw [← NX.out]; exact hlt
              have hj9 : j + 1 ≤ 9223372036854775807 := by unfold maxLen at hnx; omega
              obtain ⟨G, Ai, ni, ci, rfl, hG1, hG2, hxi, hcell, hS8, hap⟩ := hH.at_ hjx
              clear hS8 hap
              go_wp2_with fail
              clear hcell hG2
              go_loopw [33] (fun o wr3 => ∃ q : Nat, q ≤ ni ∧ o = .int .i64 q ∧ Held wr3 W8.heap.size (.slice (some ⟨G, 0, none⟩) n9 c9) xs ∧ Below W6.heap.size W6 wr3) (fun o _ => ni - (intOf o).toNat)
              case atStart => exact ⟨0, by omega, rfl, hH, hbw⟩
              case round =>
                clear hH hbw
                obtain ⟨q, hq, rfl, hH, hbw⟩ := hrel
                obtain ⟨G', Ai', ni', ci', hA, _, hG2, hxi', hcell, hS8, hap⟩ := hH.at_ hjx
                injection hA with hA
                injection hA with hA _ _
                subst hA
                rw [hxi] at hxi'
                injection hxi' with hxi'
                injection hxi' with e1 e2 e3
                subst e1 e2 e3
                by_cases hlq : q < ni
                · obtain ⟨g, b, rfl, hg1, hg2, hcb, hfz, hnc, hcm⟩ := hS8.at_ hlq
                  have hcm' := hcm
                  unfold maxLen at hcm'
                  have hrow : (Value.slice (some ⟨G, 0, none⟩) n9 c9).ownBlock ≠ some g := by
                    rcases hap with h0 | h0
                    · cases h0
                    · intro e
                      have e' : G = g := by simpa [Value.ownBlock] using e
                      exact h0 g 0 rfl e'.symm
                  clear hap
                  have hg6 : W6.heap.size ≤ g := Nat.le_trans hs8 hg1
                  go_wp2_with fail
                  go_region
                  go_wp2
                  go_roundw
                  case rel => exact ⟨q + 1, by omega, by go_num, Held.set_ (w := wr.drew) hH g q _ _ (val_one b) hrow, hbw.drew.setCell hg6 _⟩
                  case measure => simp [intOf]; omega
                · clear hap
                  go_wp2_with fail
                  go_roundw
                  case rel => exact ⟨j + 1, by omega, by go_num, hH, hbw⟩
                  case measure => simp [intOf]; omega
            · have hBr := hB6.below hbw hB6.lt
              have hbr := hbel6.trans (hbw.mono hs6)
              have hsr := hbr.size
              have qr := Reads.more (Reads.below w0 hbr) hsr
              have zm := (hSm6.below hbw).strs.1
              have zl := (w2.below hbr).more hsr
              have hm2 : b2.length ≤ maxLen := by unfold maxLen; omega
              clear hH
              go_wp2_with fail
              refine (kept_any w.heap.size A0 c0 b0 wr hBr qr hl0).mono ?_
              rintro e WC ⟨rfl, rfl⟩
              go_wp2_with fail
              refine (same_yes Am A2 nm b2.length cm c2 b2 _ zm zl NM.out rfl hm2).mono ?_
              rintro e WD ⟨rfl, hbD⟩
              go_wp2_with fail
              refine (oworks_any _).mono ?_
              rintro e WE ⟨rfl, hbE⟩
              go_wp2_with fail
              go_ret
              exact ⟨rfl, (hbr.trans (hbD.mono hsr)).trans (hbE.mono (Nat.le_trans hsr hbD.size))⟩

set_option maxRecDepth 100000 in
theorem lifted (os : Os) (started : os.Started) (H : Type) (enc : TypeId × Value → H) (F : Stop.Interp) :
    ReturnsInHanded {} Try.checked os 4 .any ((Rows.OpenSpec.upto Rows.octetStringsSpec).pre6 enc Try.prog Try.f4 Rows.octetStringsUptoRow.domain false) (((Rows.OpenSpec.upto Rows.octetStringsSpec).at F).post enc Try.prog Try.f4 false true false false) := by
  refine returnsInHanded_of_cond (C := Try.checked) (s := Rows.OpenSpec.upto Rows.octetStringsSpec) (k := Rows.uptoSmall) rfl own started (by kernel_rfl) Try.func4
    (OpenSpec.witness (enc := enc) (C := Try.checked) (s := Rows.OpenSpec.upto Rows.octetStringsSpec) (k := Rows.uptoSmall) rfl false ⟨#[], #[.slice none 0 0, .slice none 0 0, .slice none 0 0, .int .i64 0, .int .i64 0], []⟩ 8 (by kernel_rfl) (by kernel_rfl) (by kernel_rfl)
      (x := ([.nil, .nil, .nil, .lit (.int .i64 0), .lit (.int .i64 0)], [], [])) (by kernel_rfl) rfl (by kernel_rfl)) ?_
  intro W base args ds gs before hval0 hW hcnd hk _
  have hval : ∀ (j : Nat) t v, Try.f4.params[j]? = some t → args[j]? = some v → Value.okWide Try.prog W .any base t v := hval0
  have hW' : DataW.Whole enc Try.prog Try.f4.params.toList Rows.octetStringsSpec.vars false W args.toList ds gs before := hW
  show Calls Try.prog 4 args W fun e W' => ∃ v, e = .returned v ∧ Rows.octetStringsSpec.post enc Try.prog Try.f4 false true false false W args v W'
  obtain ⟨p, q, hA0, hV, rfl, hfz, hnd⟩ := hW
  have hA : DataW.TrodAll enc Try.prog W 0 (fun _ => true) true Try.f4.params.toList args.toList ds p := hA0
  rw [Try.params4] at hA hval
  obtain ⟨v0, vs0, d0, ds0, p0, q0, hargs, rfl, rfl, h0, r0⟩ := trodAll_cons hA
  obtain ⟨v1, vs1, d1, ds1, p1, q1, rfl, rfl, rfl, h1, r1⟩ := trodAll_cons r0
  obtain ⟨v2, vs2, d2, ds2, p2, q2, rfl, rfl, rfl, h2, r2⟩ := trodAll_cons r1
  obtain ⟨v3, vs3, d3, ds3, p3, q3, rfl, rfl, rfl, h3, r3⟩ := trodAll_cons r2
  obtain ⟨v4, vs4, d4, ds4, p4, q4, rfl, rfl, rfl, h4, r4⟩ := trodAll_cons r3
  obtain ⟨rfl, rfl, rfl⟩ := trodAll_nil r4
  obtain rfl : args = #[v0, v1, v2, v3, v4] := by cases args; simp_all
  obtain ⟨rfl, rfl⟩ := trodVars_none hV
  have hk' : Rows.uptoSmall H ([d0, d1, d2, d3, d4] ++ []) = true := hk
  obtain ⟨A0, n0, c0, rfl⟩ := okWide_slice Try.underlying22 (hval 0 22 v0 rfl rfl)
  have k0 := h0
  have lt0 : ∀ x ∈ p0, x.block < W.heap.size := by obtain ⟨m, hm⟩ := k0; exact DataW.trod_lt m _ _ _ hm
  obtain ⟨z0, x0, u0⟩ : ∃ zs, IsRow .u8 W A0 n0 c0 zs ∧ n0 ≤ 1048576 := by
    obtain ⟨fuel, hf⟩ := h0
    rcases open_ints Try.underlying22 Try.underlying5 (by kernel_rfl) hf with ⟨hcs, _⟩ | ⟨x, l, c, zs, hcs, _, hl, hm, hz, hdx, hcell, hwz⟩
    · simp [Value.cells] at hcs
      obtain ⟨rfl, rfl, rfl⟩ := hcs
      exact ⟨[], .inl ⟨rfl, rfl, rfl, rfl⟩, by omega⟩
    · simp [Value.cells] at hcs
      obtain ⟨rfl, rfl, rfl⟩ := hcs
      obtain ⟨hd, _⟩ := Prod.mk.inj hdx
      have hz' : zs.length = c0 := by simpa using hz
      exact ⟨zs, .inr ⟨_, rfl, hl, hm, hz', hcell, hwz⟩, bytes_bulk hk' (j := 0) (congrArg some hd) (by omega)⟩
  obtain ⟨b0, rfl, w0, l0, m0⟩ := row_bytes x0
  obtain ⟨A1, n1, c1, rfl⟩ := okWide_slice Try.underlying22 (hval 1 22 v1 rfl rfl)
  have k1 := h1
  have lt1 : ∀ x ∈ p1, x.block < W.heap.size := by obtain ⟨m, hm⟩ := k1; exact DataW.trod_lt m _ _ _ hm
  obtain ⟨z1, x1, u1⟩ : ∃ zs, IsRow .u8 W A1 n1 c1 zs ∧ n1 ≤ 1048576 := by
    obtain ⟨fuel, hf⟩ := h1
    rcases open_ints Try.underlying22 Try.underlying5 (by kernel_rfl) hf with ⟨hcs, _⟩ | ⟨x, l, c, zs, hcs, _, hl, hm, hz, hdx, hcell, hwz⟩
    · simp [Value.cells] at hcs
      obtain ⟨rfl, rfl, rfl⟩ := hcs
      exact ⟨[], .inl ⟨rfl, rfl, rfl, rfl⟩, by omega⟩
    · simp [Value.cells] at hcs
      obtain ⟨rfl, rfl, rfl⟩ := hcs
      obtain ⟨hd, _⟩ := Prod.mk.inj hdx
      have hz' : zs.length = c1 := by simpa using hz
      exact ⟨zs, .inr ⟨_, rfl, hl, hm, hz', hcell, hwz⟩, bytes_bulk hk' (j := 1) (congrArg some hd) (by omega)⟩
  obtain ⟨b1, rfl, w1, l1, m1⟩ := row_bytes x1
  obtain ⟨A2, n2, c2, rfl⟩ := okWide_slice Try.underlying33 (hval 2 33 v2 rfl rfl)
  have k2 := h2
  have lt2 : ∀ x ∈ p2, x.block < W.heap.size := by obtain ⟨m, hm⟩ := k2; exact DataW.trod_lt m _ _ _ hm
  obtain ⟨b2, rfl, w2, u2, l2, m2⟩ : ∃ l : List (List UInt8), n2 = l.length ∧ Strs W W.heap.size A2 l ∧ mass l ≤ 1048576 ∧ n2 ≤ c2 ∧ c2 ≤ maxLen := by
    obtain ⟨fuel, hf⟩ := h2
    rcases Deep.open_int_rows Try.underlying33 Try.underlying22 Try.underlying5 (by kernel_rfl) (by kernel_rfl) hf with ⟨hcs, _⟩ | ⟨a, len, cap, A, L, C, Z, hcs, _, hl, hm, hdx, hcell⟩
    · simp [Value.cells] at hcs
      obtain ⟨rfl, rfl, rfl⟩ := hcs
      exact ⟨[], rfl, Strs.none_, by decide, Nat.le_refl _, by decide⟩
    · simp [Value.cells] at hcs
      obtain ⟨rfl, rfl, rfl⟩ := hcs
      obtain ⟨hd, _⟩ := Prod.mk.inj hdx
      obtain ⟨l, h1, h2⟩ := strs_of hl (fun r hr => by
        obtain ⟨x1, x2, x3, x4, x5, x6, x7⟩ := hcell r hr
        exact ⟨x1, x2, x3, x4, x5, x6, fun a' ha => (x7 a' ha).2⟩)
      refine ⟨l, h1, h2, ?_, hl, hm⟩
      rw [h1] at hd hl
      exact rows_bulk hk' (j := 2) (congrArg some hd) h2 (fun r hr => by
        obtain ⟨x1, x2, _, x4, _, x6, _⟩ := hcell r (by omega)
        exact ⟨x1, x2, x4, x6⟩)
  obtain ⟨a3, rfl, rfl, rfl, w3⟩ := open_int Try.underlying3 (hval 3 3 v3 rfl rfl) h3
  obtain ⟨a4, rfl, rfl, rfl, w4⟩ := open_int Try.underlying3 (hval 4 3 v4 rfl rfl) h4
  clear hA0 hval0
  refine (walk A0 b0 c0 A1 b1 c1 A2 b2 c2 a3 a4 W w0 u0 l0 m0 w1 u1 l1 m1 w2 u2 l2 m2 w3 w4).mono fun e W' ⟨he, bel⟩ => ?_
  subst he
  exact ⟨_, rfl, _, _, _, [], _, [], hW', trodAll_mk1 (shut_bool Try.underlying4 _), (trodAll_cons_mk (Below.trod laidOut (by kernel_rfl) (of_decide_eq_true (by kernel_rfl)) k0 bel lt0) (trodAll_cons_mk (Below.trod laidOut (by kernel_rfl) (of_decide_eq_true (by kernel_rfl)) k1 bel lt1) (trodAll_cons_mk (Below.trod laidOut (by kernel_rfl) (of_decide_eq_true (by kernel_rfl)) k2 bel lt2) (trodAll_cons_mk (shut_int Try.underlying3 w3) (trodAll_cons_mk (shut_int Try.underlying3 w4) trodAll_mk0))))), rfl, bel.frame _, fun h => by cases h⟩

theorem proved : Rows.OctetStringsUptoSaid :=
  OpenClaim.holds_of_cond 4 Try.f4 rfl rfl rfl rfl rfl rfl rfl ⟨rfl, rfl, rfl, rfl, rfl⟩ rfl rfl rfl rfl rfl (by kernel_rfl) Try.func4 (by kernel_rfl)
    (of_decide_eq_true (by kernel_rfl)) (by unfold Func.isWrapper; first | (rw [if_pos (by decide +kernel)]; kernel_rfl) | (rw [if_neg (by decide +kernel)]; exact ⟨rfl, rfl⟩))
    (fun os started H enc _ F => lifted os started H enc F)
#print axioms proved
end Go.Proofs.Ytbfdliogpheekaa.octetStrings
