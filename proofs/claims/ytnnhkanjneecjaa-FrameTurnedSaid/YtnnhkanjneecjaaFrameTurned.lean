/-
  FrameTurned: where a byte of a record, or of its sum, was turned, all records ahead of it are read, and neither it nor what stands behind; where a frame was cut off, likewise. No condition.
-/
import Derived.Test.YtnnhkanjneecjaaRows
import Derived.WalkKit
import Derived.ProofKit
import Derived.OpenShut
import Derived.ShutString
import Derived.ChangeOld
import Derived.Below
import Derived.Test.YtnnhkanjneecjaaFrT
namespace Go.Proofs.Ytnnhkanjneecjaa.frameTurned
open Go.ChangeShapes Go.WideShapes Go.ChangeAt Go.RowKit
open Go.ChangeMaps (open_string shut_string)
set_option linter.unusedVariables false

theorem own : ownKnob Try.prog.godebug = none := by kernel_rfl
theorem laidOut : laidOutB Try.prog = true := by kernel_rfl


set_option maxRecDepth 100000 in
set_option maxHeartbeats 4000000 in
theorem walk (A0 : Option Addr) (b0 : List (List UInt8)) (c0 : Nat) (a1 : Int) (a2 : Int) (a3 : Int) (w : World) (w0 : Strs w w.heap.size A0 b0) (l0 : b0.length ≤ c0) (m0 : c0 ≤ maxLen) (w1 : (Lit.int .u8 a1).wf = true) (w2 : (Lit.int .u16 a2).wf = true) (w3 : (Lit.int .u8 a3).wf = true) :
    Calls Try.prog 10 #[.slice A0 b0.length c0, .int .u8 a1, .int .u16 a2, .int .u8 a3] w fun e w' => e = .returned (.bool true) ∧ Below w.heap.size w w' := by
  have d1 := wf_u8 w1
  have d2 := wf_u16 w2
  have d3 := wf_u8 w3
  clear w1 w2 w3
  obtain ⟨z1, rfl⟩ := Int.eq_ofNat_of_zero_le d1.1
  obtain ⟨z2, rfl⟩ := Int.eq_ofNat_of_zero_le d2.1
  obtain ⟨d, rfl⟩ : ∃ d : UInt8, a3 = (d.toNat : Int) := ⟨UInt8.ofNat a3.toNat, by simp; omega⟩
  have hz1 : z1 ≤ 255 := by omega
  have hz2 : z2 ≤ 65535 := by omega
  clear d1 d2 d3
  by_cases h0 : b0.length = 0
  · have h0' : (b0.length : Int) = 0 := by omega
    go_enter Try.func10, Try.ntmps10
    go_wp2_with fail
    refine (fworks_any _).mono ?_
    rintro e W2 ⟨rfl, hb2⟩
    go_wp2_with fail
    go_ret
    exact ⟨rfl, hb2⟩
  by_cases h30 : 30 < b0.length
  · have h30' : (30 : Int) < (b0.length : Int) := by omega
    have h0' : ¬ (b0.length : Int) = 0 := by omega
    go_enter Try.func10, Try.ntmps10
    go_wp2_with fail
    refine (fworks_any _).mono ?_
    rintro e W2 ⟨rfl, hb2⟩
    go_wp2_with fail
    go_ret
    exact ⟨rfl, hb2⟩
  have h30' : ¬ (30 : Int) < (b0.length : Int) := by omega
  have h0' : ¬ (b0.length : Int) = 0 := by omega
  have hk : z1 % b0.length < b0.length := Nat.mod_lt _ (by omega)
  have hkz : (z1 : Int) % (b0.length : Int) = ((z1 % b0.length : Nat) : Int) := by omega
  generalize z1 % b0.length = k at hk hkz
  go_enter Try.func10, Try.ntmps10
  go_wp2_with fail
  go_loopw [10, 11, 12] (fun fr sz i wr => ∃ j : Nat, j ≤ b0.length ∧ i = .int .i64 (j : Int) ∧ sz = .int .i64 (((encF (b0.take j)).length : Nat) : Int) ∧ fr = .int .i64 (((encF (b0.take (min j k))).length : Nat) : Int) ∧ Hid (∀ s ∈ b0.take j, s.length ≤ 1000) ∧ (encF (b0.take j)).length ≤ j * 1008 ∧ (encF (b0.take (min j k))).length ≤ j * 1008 ∧ w = wr) (fun _ _ i _ => b0.length - (intOf i).toNat)
  case atStart =>
    refine ⟨0, by omega, rfl, ?_, ?_, (show ∀ s ∈ b0.take 0, s.length ≤ 1000 from fun s hs => by simp at hs), ?_, ?_, rfl⟩
    · simp [encF]
    · simp [encF]
    · simp [encF]
    · simp [encF]
  case round =>
    obtain ⟨j, hj, rfl, rfl, rfl, hall, hs1, hs2, rfl⟩ := hrel
    by_cases hlt : j < b0.length
    · obtain ⟨b, off, Ai, ci, rfl, hB, hc, hBi, hli, hmi⟩ := w0.at_ hlt
      have hen : (encF (b0.take (j + 1))).length = (encF (b0.take j)).length + (8 + b0[j].length) := by rw [encF_take b0 j hlt, List.length_append, fr_len]
      have hall2 : b0[j].length ≤ 1000 → ∀ x ∈ b0.take (j + 1), x.length ≤ 1000 := by
        intro h x hxm
        rw [List.take_succ_eq_append_getElem hlt] at hxm
        rcases List.mem_append.1 hxm with h' | h'
        · exact hall.out x h'
        · rw [List.mem_singleton.1 h']; exact h
      have HEN := Lib.hid hen
      have HA2 := Lib.hid hall2
      clear hen hall2 hall
      generalize b0[j] = z at hc hBi hli HEN HA2
      by_cases hz : 1000 < z.length
      · clear HEN HA2
        go_wp2_with fail
        refine (fworks_any _).mono ?_
        rintro e W2 ⟨rfl, hb2⟩
        go_wp2_with fail
        go_ret
        exact ⟨rfl, hb2⟩
      · by_cases hjk : j < k
        · have m1 : min j k = j := by omega
          have m2 : min (j + 1) k = j + 1 := by omega
          rw [m1] at hs2 ⊢
          clear m1
          have bd1 : (encF (b0.take j)).length + (8 + z.length) ≤ (j + 1) * 1008 := by omega
          have bd2 : (j + 1) * 1008 ≤ 40000 := by omega
          go_wp2_with fail
          go_roundw
          case rel =>
            refine ⟨j + 1, by omega, by go_num, ?_, ?_, HA2.out (by omega), by rw [HEN.out]; omega, by rw [m2, HEN.out]; omega, trivial⟩
            · rw [HEN.out]; go_num
            · rw [m2, HEN.out]; go_num
          case measure => simp [intOf]; omega
        · have m1 : min j k = k := by omega
          have m2 : min (j + 1) k = k := by omega
          rw [m1] at hs2 ⊢
          clear m1
          have bd1 : (encF (b0.take j)).length + (8 + z.length) ≤ (j + 1) * 1008 := by omega
          have bd2 : (j + 1) * 1008 ≤ 40000 := by omega
          go_wp2_with fail
          go_roundw
          case rel =>
            refine ⟨j + 1, by omega, by go_num, ?_, ?_, HA2.out (by omega), by rw [HEN.out]; omega, by rw [m2]; omega, trivial⟩
            · rw [HEN.out]; go_num
            · rw [m2]
          case measure => simp [intOf]; omega
    · obtain rfl : j = b0.length := by omega
      rw [List.take_length] at hs1 hall ⊢
      have m1 : min b0.length k = k := by omega
      rw [m1] at hs2 ⊢
      clear m1 hlt
      have hal : ∀ s ∈ b0, s.length ≤ 4096 := fun s hs => by have := hall.out s hs; omega
      have hLL := encF_long b0
      have e1 : putFB [] b0 = encF b0 := by unfold putFB; rw [okF_all hal]; rfl
      have e2 : putFE b0 = 0 := by unfold putFE; rw [okF_all hal]; rfl
      go_wp2_with fail
      refine (fput_any none A0 0 0 b0.length c0 [] b0 w (no_bytes _ _ _) rfl w0 rfl (by simp; omega) (by omega)).mono ?_
      rintro e W1 ⟨A1, n1, c1, rfl, hn1, hown1, hb1⟩
      rw [e1] at hn1 hown1
      rw [e2]
      clear e1 e2
      have hlen2 : (encF (b0.take (k + 1))).length = (encF (b0.take k)).length + (8 + b0[k].length) := by rw [encF_take b0 k hk, List.length_append, fr_len]
      have hle2 := encF_take_le b0 (k + 1)
      have hfa := falR_all b0 hal
      obtain ⟨b, off, Ai, ci, rfl, hB, hcw, hBi, hli, hmi⟩ := w0.at_ hk
      have hLk : b0[k].length ≤ 1000 := hall.out _ (List.getElem_mem hk)
      have hFT := falR_turned b0 k
      have hFC := falR_cut b0 hal k
      generalize b0[k].length = Lk at hlen2 hcw hli hLk
      generalize hf : (encF (b0.take k)).length = f at hlen2 hs2 hFT hFC ⊢
      generalize hf2 : (encF (b0.take (k + 1))).length = f2 at hlen2 hle2 hFT hFC
      generalize hBB : encF b0 = B at *
      have HFT := Lib.hid hFT
      have HFC := Lib.hid hFC
      have HFA := Lib.hid hfa
      have HAL := Lib.hid hal
      have HF := Lib.hid hf
      clear hFT hFC hfa hal hf hf2 hBB hall hBi
      have N1 := Lib.hid hn1
      have p1 : ((n1 : Int) != (B.length : Int)) = false := by rw [hn1]; simp
      have hs1' := hb1.size
      have x1 := (own_open hown1).1
      have hc1 := (own_open hown1).2.1
      have hm1 := (own_open hown1).2.2.1
      clear hn1 hown1
      go_wp2_with fail
      refine (fall_any A1 n1 c1 B W1 x1 N1.out (by omega)).mono ?_
      rintro e W2 ⟨A2, n2, c2, rfl, hn2, hown2, hb2⟩
      rw [HFA.out] at hn2 hown2 ⊢
      have N2 := Lib.hid hn2
      have hb12 := hb1.trans (hb2.mono hs1')
      have hs2' := hb12.size
      have z2' := hown2.strs.1
      have z0 := (w0.below hb12).more hs2'
      have x2 := Reads.more (Reads.below x1 hb2) hb2.size
      clear hn2 hown2 hb2 x1
      go_wp2_with fail
      refine (same_yes A2 (some ⟨b, off, none⟩) n2 b0.length c2 c0 b0 W2 z2' z0 N2.out rfl (by unfold maxLen; omega)).mono ?_
      rintro e W3 ⟨rfl, hb3⟩
      have hb13 := hb12.trans (hb3.mono hs2')
      have hs3' := hb13.size
      have x3 := Reads.more (Reads.below x2 hb3) hb3.size
      clear hb3 z2' z0 x2
      have q1 : z2 % (4 + Lk) < 4 + Lk := Nat.mod_lt _ (by omega)
      have q2 : (z2 : Int) % (4 + (Lk : Int)) = ((z2 % (4 + Lk) : Nat) : Int) := by rw [Int.natCast_emod, Int.natCast_add]; rfl
      have q3 : z2 % (8 + Lk) < 8 + Lk := Nat.mod_lt _ (by omega)
      have q4 : (z2 : Int) % (8 + (Lk : Int)) = ((z2 % (8 + Lk) : Nat) : Int) := by rw [Int.natCast_emod, Int.natCast_add]; rfl
      generalize z2 % (4 + Lk) = q at q1 q2
      generalize z2 % (8 + Lk) = r at q3 q4
      have hpB : f + 4 + q < B.length := by omega
      have P2 : Hid (([] : List UInt8) ++ B = B) := rfl
      go_wp2_with (at_builtin; refine wpList_ap2 rfl _ _ rfl rfl W3.heap.size (.slice (some ⟨W3.heap.size, 0, none⟩) 0 0) [] B B W3.heap.size A1 n1 c1 rfl rfl N1.out P2.out (OwnB.made W3 _ 5 (Nat.le_refl _)) (Reads.alloc x3 (Nat.le_refl _) _) (by simp; omega) W3 ((Below.refl _ _).alloc (Nat.le_refl _) _) (by simp) ?_; intro A4 c4 n4 W4 e4 h4 hB4 hl4 hbel4 hs4 hg4; clear hB4 hl4 hg4; obtain ⟨g, hA4, hg1, hrow, cc, cf, c4m, c4x, n4B⟩ := own_at h4 hpB; subst hA4; have hck := ((hb13.trans (hbel4.mono hs3')).cell (p := ⟨b, off + k, none⟩) hB).trans hcw)
      have hr5 := hrow.set_ hpB (B[f + 4 + q] ^^^ d) _ (val_xor B[f + 4 + q] d)
      have hb5 := hbel4.setCell (p := ⟨g, f + 4 + q, none⟩) hg1 (Value.int .u8 (bits .xor .u8 (B[f + 4 + q].toNat : Int) (d.toNat : Int)))
      generalize W4.setCell ⟨g, f + 4 + q, none⟩ (Value.int .u8 (bits .xor .u8 (B[f + 4 + q].toNat : Int) (d.toNat : Int))) = W5 at hr5 hb5 ⊢
      have hb15 := hb13.trans (hb5.mono hs3')
      have hs5 := hb15.size
      have x5 := Reads.more (Reads.below x3 hb5) hb5.size
      have r5 := hr5.bytes
      have hBl : (B.set (f + 4 + q) (B[f + 4 + q] ^^^ d)).length = B.length := by rw [List.length_set]
      have hn4 : n4 = (B.set (f + 4 + q) (B[f + 4 + q] ^^^ d)).length := by rw [hBl]; exact e4.out
      have hRz : d = 0 → falR (B.set (f + 4 + q) (B[f + 4 + q] ^^^ d)) = (b0, B.length) := by
        intro h; subst h
        rw [UInt8.xor_zero, List.set_getElem_self]; exact HFA.out
      have hRn : ¬ d = 0 → falR (B.set (f + 4 + q) (B[f + 4 + q] ^^^ d)) = (b0.take k, f) := fun h => HFT.out (f + 4 + q) d HAL.out hk (by omega) (by omega) hpB h
      have N4 := Lib.hid hn4
      have BL := Lib.hid hBl
      have RZ := Lib.hid hRz
      have RN := Lib.hid hRn
      clear hr5 hb5 cc cf hck hrow h4 hbel4 x3 hs4 e4 hBl hn4 hRz hRn
      generalize B.set (f + 4 + q) (B[f + 4 + q] ^^^ d) = B2 at *
      refine (fall_any (some ⟨g, 0, none⟩) n4 c4 B2 W5 r5 N4.out (by rw [BL.out]; omega)).mono ?_
      rintro e W6 ⟨A6, n6, c6, rfl, hn6, hown6, hb6⟩
      have hb16 := hb15.trans (hb6.mono hs5)
      have hs6 := hb16.size
      have x6 := Reads.more (Reads.below x5 hb6) hb6.size
      have hck := (hb16.cell (p := ⟨b, off + k, none⟩) hB).trans hcw
      clear r5 x5 hb6
      by_cases hd : d = 0
      · rw [RZ.out hd] at hn6 hown6 ⊢
        have N6 := Lib.hid hn6
        have z6 := hown6.strs.1
        have z0 := (w0.below hb16).more hs6
        have hd' : (d.toNat : Int) = 0 := by rw [hd]; rfl
        clear hn6 hown6
        go_wp2_with fail
        refine (same_yes A6 (some ⟨b, off, none⟩) n6 b0.length c6 c0 b0 W6 z6 z0 N6.out rfl (by unfold maxLen; omega)).mono ?_
        rintro e W7 ⟨rfl, hb7⟩
        go_wp2_with fail
        refine (fworks_any _).mono ?_
        rintro e W8 ⟨rfl, hb8⟩
        go_wp2_with fail
        go_ret
        have hb17 := hb16.trans (hb7.mono hs6)
        exact ⟨rfl, hb17.trans (hb8.mono hb17.size)⟩
      · rw [RN.out hd] at hn6 hown6 ⊢
        have N6 := Lib.hid hn6
        have hd' : ¬ (d.toNat : Int) = 0 := by
          intro h; apply hd; exact UInt8.toNat_inj.1 (by have : d.toNat = 0 := by omega
                                                         rw [this]; rfl)
        have y6 := bytes_take x6 (f + r) (by omega)
        have hyl : f + r = (B.take (f + r)).length := by rw [List.length_take]; omega
        have hcut := HFC.out (f + r) (by omega) (by omega) (.inl (by omega))
        have CUT := Lib.hid hcut
        have YL := Lib.hid hyl
        have hn1B : n1 = B.length := N1.out
        have hfr : f + r ≤ n1 := by omega
        clear hn6 hcut hyl hn1B
        go_wp2_with fail
        refine (fall_any A1 (f + r) c1 (B.take (f + r)) W6 y6 YL.out (by rw [← YL.out]; omega)).mono ?_
        rintro e W7 ⟨A7, n7, c7, rfl, hn7, hown7, hb7⟩
        rw [CUT.out] at hn7 hown7 ⊢
        have N7 := Lib.hid hn7
        have hb17 := hb16.trans (hb7.mono hs6)
        have hs7 := hb17.size
        have hown6' := hown6.below hb7
        have z7 := hown7.strs.1
        have z6 := hown6'.strs.1
        have zk := strs_take ((w0.below hb17).more hs7) k (by omega)
        have hkl : k = (b0.take k).length := by rw [List.length_take]; omega
        have KL := Lib.hid hkl
        have hkm : (b0.take k).length ≤ maxLen := by rw [← hkl]; unfold maxLen; omega
        have s1 := fun W z6 zk => same_yes A6 (some ⟨b, off, none⟩) n6 k c6 c0 (b0.take k) W z6 zk N6.out KL.out hkm
        have s2 := fun W z7 zk => same_yes A7 (some ⟨b, off, none⟩) n7 k c7 c0 (b0.take k) W z7 zk N7.out KL.out hkm
        have S1 := Lib.hid s1
        have S2 := Lib.hid s2
        clear hn7 hkl hown6 hb7 s1 s2 hkm
        go_wp2_with fail
        refine (S1.out W7 z6 zk).mono ?_
        rintro e W8 ⟨rfl, hb8⟩
        have hb18 := hb17.trans (hb8.mono hs7)
        have hs8 := hb18.size
        have z7' := (hown7.below hb8).strs.1
        have zk' := strs_take ((w0.below hb18).more hs8) k (by omega)
        clear z7 z6 zk hown6' hb8
        go_wp2_with fail
        refine (S2.out W8 z7' zk').mono ?_
        rintro e W9 ⟨rfl, hb9⟩
        go_wp2_with fail
        refine (fworks_any _).mono ?_
        rintro e WA ⟨rfl, hbA⟩
        go_wp2_with fail
        go_ret
        have hb19 := hb18.trans (hb9.mono hs8)
        exact ⟨rfl, hb19.trans (hbA.mono hb19.size)⟩

set_option maxRecDepth 100000 in
theorem lifted (os : Os) (started : os.Started) (H : Type) (enc : TypeId × Value → H) :
    ReturnsInHanded {} Try.checked os 10 .any (Rows.frameTurnedSpec.pre6 enc Try.prog Try.f10 Rows.frameTurnedRow.domain false) (Rows.frameTurnedSpec.post enc Try.prog Try.f10 false true false false) := by
  refine returnsInHanded_of_change (C := Try.checked) own started (by kernel_rfl) Try.func10
    (ChangeSpec.witness6 (enc := enc) (C := Try.checked) false ⟨#[], #[.slice none 0 0, .int .u8 0, .int .u16 0, .int .u8 0], []⟩ 8 (by kernel_rfl) (by kernel_rfl) (by kernel_rfl) (by kernel_rfl)) ?_
  intro W base args ds gs before hval0 hW hcnd _
  have hval : ∀ (j : Nat) t v, Try.f10.params[j]? = some t → args[j]? = some v → Value.okWide Try.prog W .any base t v := hval0
  have hW' := hW
  obtain ⟨p, q, hA0, hV, rfl, hfz, hnd⟩ := hW
  have hA : DataW.TrodAll enc Try.prog W 0 (fun _ => true) true Try.f10.params.toList args.toList ds p := hA0
  rw [Try.params10] at hA hval
  obtain ⟨v0, vs0, d0, ds0, p0, q0, hargs, rfl, rfl, h0, r0⟩ := trodAll_cons hA
  obtain ⟨v1, vs1, d1, ds1, p1, q1, rfl, rfl, rfl, h1, r1⟩ := trodAll_cons r0
  obtain ⟨v2, vs2, d2, ds2, p2, q2, rfl, rfl, rfl, h2, r2⟩ := trodAll_cons r1
  obtain ⟨v3, vs3, d3, ds3, p3, q3, rfl, rfl, rfl, h3, r3⟩ := trodAll_cons r2
  obtain ⟨rfl, rfl, rfl⟩ := trodAll_nil r3
  obtain rfl : args = #[v0, v1, v2, v3] := by cases args; simp_all
  obtain ⟨rfl, rfl⟩ := trodVars_none hV
  obtain ⟨A0, n0, c0, rfl⟩ := okWide_slice Try.underlying33 (hval 0 33 v0 rfl rfl)
  have k0 := h0
  have lt0 : ∀ x ∈ p0, x.block < W.heap.size := by obtain ⟨m, hm⟩ := k0; exact DataW.trod_lt m _ _ _ hm
  obtain ⟨b0, rfl, w0, l0, m0⟩ : ∃ l : List (List UInt8), n0 = l.length ∧ Strs W W.heap.size A0 l ∧ n0 ≤ c0 ∧ c0 ≤ maxLen := by
    obtain ⟨fuel, hf⟩ := h0
    rcases Deep.open_int_rows Try.underlying33 Try.underlying22 Try.underlying5 (by kernel_rfl) (by kernel_rfl) hf with ⟨hcs, _⟩ | ⟨a, len, cap, A, L, C, Z, hcs, _, hl, hm, _, hcell⟩
    · simp [Value.cells] at hcs
      obtain ⟨rfl, rfl, rfl⟩ := hcs
      exact ⟨[], rfl, Strs.none_, Nat.le_refl _, by decide⟩
    · simp [Value.cells] at hcs
      obtain ⟨rfl, rfl, rfl⟩ := hcs
      obtain ⟨l, h1, h2⟩ := strs_of hl (fun r hr => by
        obtain ⟨x1, x2, x3, x4, x5, x6, x7⟩ := hcell r hr
        exact ⟨x1, x2, x3, x4, x5, x6, fun a' ha => (x7 a' ha).2⟩)
      exact ⟨l, h1, h2, hl, hm⟩
  obtain ⟨a1, rfl, rfl, rfl, w1⟩ := open_int Try.underlying5 (hval 1 5 v1 rfl rfl) h1
  obtain ⟨a2, rfl, rfl, rfl, w2⟩ := open_int Try.underlying61 (hval 2 61 v2 rfl rfl) h2
  obtain ⟨a3, rfl, rfl, rfl, w3⟩ := open_int Try.underlying5 (hval 3 5 v3 rfl rfl) h3
  clear hA0 hval0
  refine (walk A0 b0 c0 a1 a2 a3 W w0 l0 m0 w1 w2 w3).mono fun e W' ⟨he, bel⟩ => ?_
  subst he
  exact ⟨_, rfl, _, _, _, [], _, [], hW', trodAll_mk1 (shut_bool Try.underlying4 _), (trodAll_cons_mk (Below.trod laidOut (by kernel_rfl) (of_decide_eq_true (by kernel_rfl)) k0 bel lt0) (trodAll_cons_mk (shut_int Try.underlying5 w1) (trodAll_cons_mk (shut_int Try.underlying61 w2) (trodAll_cons_mk (shut_int Try.underlying5 w3) trodAll_mk0)))), rfl, bel.frame _, fun h => by cases h⟩

theorem over : Rows.frameTurnedRow.holds Try.pinned (OpenSpec.ofChange Rows.frameTurnedSpec) :=
  OpenClaim.holds_of_wide 10 Try.f10 rfl rfl rfl rfl rfl rfl rfl ⟨rfl, rfl, rfl, rfl, rfl⟩ rfl rfl rfl rfl rfl (by kernel_rfl) Try.func10 (by kernel_rfl)
    (of_decide_eq_true (by kernel_rfl)) (by unfold Func.isWrapper; first | (rw [if_pos (by decide +kernel)]; kernel_rfl) | (rw [if_neg (by decide +kernel)]; exact ⟨rfl, rfl⟩))
    (fun os started H enc _ => lifted os started H enc)

theorem proved : Rows.FrameTurnedSaid := over
#print axioms proved
end Go.Proofs.Ytnnhkanjneecjaa.frameTurned
