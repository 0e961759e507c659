import Derived.Test.YtjihbjjekhncaaaEvRe
namespace Go.Proofs.Ytjihbjjekhncaaa
open Go.RowKit
/-! leatref08: an event's bytes. -/
attribute [local go_sem ↓] exec_loadE exec_storeE exec_allocE exec_buildE exec_loadV
set_option maxRecDepth 100000 in
set_option maxHeartbeats 8000000 in
theorem rput_yes (e : Ev) (h : e.ok) (hm : mayE e = true) (w : World) : Calls Try.prog 24 #[.agg (evA e)] w fun x w' => ∃ A n c, x = .returned (.slice A n c) ∧ n = (evB e).length ∧ OwnB w' w.heap.size 5 (.slice A n c) (evB e) ∧ Below w.heap.size w w' := by
  obtain ⟨⟨o1, o2⟩, k1, ⟨t1, t2⟩, ⟨a1, a2⟩, ⟨s1, s2⟩, D1⟩ := may_facts hm
  have P0 := PB.first (w := w) h.d6
  have le := P0.src.load
  have MY := Lib.hid (ermay_any e h)
  rw [hm] at MY
  have HP := Lib.hid P0
  have d6 := h.d6
  have FO : 0 ≤ e.o ∧ e.o ≤ 255 := by omega
  have FT : 0 ≤ e.t ∧ e.t ≤ 255 := by omega
  have FK : e.k ≤ 255 := by omega
  have FS : e.s ≤ 18446744073709551615 := by omega
  have FA : e.a.toNat ≤ 18446744073709551615 := by omega
  have FN : e.n ≤ 18446744073709551615 := by have := h.n; omega
  have FR : e.r ≤ 18446744073709551615 := by have := h.r; omega
  have FF : e.f ≤ 18446744073709551615 := by have := h.f; omega
  have FD : ∀ n ∈ e.d, n < 18446744073709551616 := fun n hn => by have := D1 n hn; omega
  have zo : IntKind.u8.wrap e.o = e.o := by rw [IntKind.wrap_u8]; omega
  have zt : IntKind.u8.wrap e.t = e.t := by rw [IntKind.wrap_u8]; omega
  have za : IntKind.u64.wrap e.a = e.a := by rw [IntKind.wrap_u64]; omega
  have xa : e.a = ((e.a.toNat : Nat) : Int) := by omega
  have XA := Lib.hid xa
  clear xa P0 hm D1 o1 o2 k1 t1 t2 a1 a2 s1 s2 h
  go_enter Try.func24, Try.ntmps24
  go_wp2_with fail
  refine (MY.out _).mono ?_
  rintro _ w2 ⟨rfl, hb⟩
  have HPB := Lib.hid (HP.out.next hb)
  have HLE : Hid (w.heap.size + 1 ≤ w2.heap.size) := Lib.hid (by have := hb.size; simpa using this)
  clear hb le HP MY
  go_wp2_with fail
  have HCH := Lib.hid (OwnB.nil_ w2 (w.heap.size + 1) 5)
  refine wp_region_cy (fun ℓ t W => S3 w e 900 13 902 10 14 912 (Value.slice none 0 0) ([]) ([UInt8.ofNat e.o.toNat]) (be 8 e.s) ([]) false (ℓ 6) false (ℓ 3) (ℓ 7) false t W ∧ AsD 14 3 (ℓ 8) t) (fun _ _ => True) [IsV (.pointer (some ⟨w.heap.size, 0, none⟩)), IsV (.int .i64 e.o), IsV (.int .u8 e.o), fun _ _ => True, IsV (.pointer (some ⟨w.heap.size, 1, none⟩)), IsV (.int .u64 (e.s : Int)), fun _ _ => True, fun _ _ => True, fun _ _ => True] ([(1, .pointer (some ⟨w.heap.size, 0, none⟩))] : List (Nat × Value)) (⟨rfl, trivial⟩) (n := 48) (by kernel_rfl) rfl (by kernel_rfl) ⟨S3.first HPB.out HLE.out HCH.out, fun x => by cases x⟩ (fun _ => trivial) (StabBy.get ?_) ?_ ?_
  · repeat (first | exact trivial | refine ⟨fun _ _ _ _ h => h, ?_⟩)
  · refine ⟨?_, ⟨?_, ⟨?_, ⟨?_, ⟨?_, ⟨?_, ⟨?_, ⟨?_, ⟨?_, trivial⟩⟩⟩⟩⟩⟩⟩⟩⟩
    · intro a W ℓ hZ hl hB hS hE hN hD
      obtain ⟨x1, _⟩ := hE
      have e1 := x1 (by kernel_rfl)
      refine plan_free rfl ?_
      have k1 := e1
      refine plan_value (v := .pointer (some ⟨w.heap.size, 0, none⟩)) (w' := W) (by go_simp) ⟨_, rfl, ⟨S3.put hS.1 (by simp) (by simp) (by simp) (by simp) (by simp) (by simp), hS.2.put (by simp) (by simp)⟩, trivial, rfl⟩
    · intro a W ℓ hZ hl hB hS hE hN hD
      have k7 : a.tmps.getD 7 undef = .pointer (some ⟨w.heap.size, 0, none⟩) := hD 0 7 (by kernel_rfl)
      refine plan_free rfl ?_
      have cc := hS.1.pb.src.o
      refine plan_value (v := .int .i64 e.o) (w' := W) (by go_simp) ⟨_, rfl, ⟨S3.put hS.1 (by simp) (by simp) (by simp) (by simp) (by simp) (by simp), hS.2.put (by simp) (by simp)⟩, trivial, rfl⟩
    · intro a W ℓ hZ hl hB hS hE hN hD
      have k8 : a.tmps.getD 8 undef = .int .i64 e.o := hD 1 8 (by kernel_rfl)
      refine plan_free rfl ?_
      refine plan_value (v := .int .u8 e.o) (w' := W) (by go_simp) ⟨_, rfl, ⟨S3.put hS.1 (by simp) (by simp) (by simp) (by simp) (by simp) (by simp), hS.2.put (by simp) (by simp)⟩, trivial, rfl⟩
    · intro a W ℓ hZ hl hB hS hE hN hD
      have k9 : a.tmps.getD 9 undef = .int .u8 e.o := hD 2 9 (by kernel_rfl)
      refine plan_free rfl ?_
      have h7 := hB 7 (by kernel_rfl)
      have h0 : S3 w e 900 13 902 10 14 912 (Value.slice none 0 0) ([]) ([UInt8.ofNat e.o.toNat]) (be 8 e.s) ([]) false (ℓ 6) false false false false a.tmps W := by
        have h := hS.1
        simp only [hl, h7] at h
        exact h
      have HO := own_lit W W.heap.size (Nat.le_refl _) 5 (UInt8.ofNat e.o.toNat)
      rw [show ((((UInt8.ofNat e.o.toNat : UInt8).toNat : Nat)) : Int) = e.o from b8_z FO.1 FO.2] at HO
      have HB := (Below.refl W.heap.size W).alloc (Nat.le_refl _) (.cells #[.int .u8 e.o] 5)
      refine plan_value (ex_lit k9) ⟨_, rfl, ?_, trivial, trivial⟩
      refine ⟨?_, hS.2.put (by simp) (by simp)⟩
      show S3 w e 900 13 902 10 14 912 (Value.slice none 0 0) ([]) ([UInt8.ofNat e.o.toNat]) (be 8 e.s) ([]) false (ℓ 6) false true (ℓ 7) false _ _
      rw [h7]
      exact S3.begin_ h0 (by rw [hZ]; decide) HB HO (by decide) (by decide)
    · intro a W ℓ hZ hl hB hS hE hN hD
      obtain ⟨x1, _⟩ := hE
      have e1 := x1 (by kernel_rfl)
      refine plan_free rfl ?_
      have k1 := e1
      refine plan_value (v := .pointer (some ⟨w.heap.size, 1, none⟩)) (w' := W) (by go_simp) ⟨_, rfl, ⟨S3.put hS.1 (by simp) (by simp) (by simp) (by simp) (by simp) (by simp), hS.2.put (by simp) (by simp)⟩, trivial, rfl⟩
    · intro a W ℓ hZ hl hB hS hE hN hD
      have k11 : a.tmps.getD 11 undef = .pointer (some ⟨w.heap.size, 1, none⟩) := hD 4 11 (by kernel_rfl)
      refine plan_free rfl ?_
      have cc := hS.1.pb.src.s
      refine plan_value (v := .int .u64 (e.s : Int)) (w' := W) (by go_simp) ⟨_, rfl, ⟨S3.put hS.1 (by simp) (by simp) (by simp) (by simp) (by simp) (by simp), hS.2.put (by simp) (by simp)⟩, trivial, rfl⟩
    · intro a W ℓ hZ hl hB hS hE hN hD
      have k12 : a.tmps.getD 12 undef = .int .u64 (e.s : Int) := hD 5 12 (by kernel_rfl)
      refine plan_free rfl ?_
      have h7 := hB 7 (by kernel_rfl)
      have h0 : S3 w e 900 13 902 10 14 912 (Value.slice none 0 0) ([]) ([UInt8.ofNat e.o.toNat]) (be 8 e.s) ([]) false false false (ℓ 3) false false a.tmps W := by
        have h := hS.1
        simp only [hl, h7] at h
        exact h
      refine plan_call (f := 64) (args := #[a.tmps.getD 12 undef]) (by kernel_rfl) ?_
      rw [k12]
      refine (word_z _ e.s rfl FS W).mono ?_
      rintro _ W2 ⟨A9, n9, c9, rfl, _, HO, HB⟩
      refine ⟨_, rfl, _, rfl, ?_, trivial, trivial⟩
      refine ⟨?_, hS.2.put (by simp) (by simp)⟩
      show S3 w e 900 13 902 10 14 912 (Value.slice none 0 0) ([]) ([UInt8.ofNat e.o.toNat]) (be 8 e.s) ([]) false true false (ℓ 3) (ℓ 7) false _ _
      rw [h7]
      exact S3.call2 h0 HB HO (by rw [hZ]; decide) rfl rfl (by decide) (by decide) (by decide) (by decide) (by decide)
    · intro a W ℓ hZ hl hB hS hE hN hD
      refine plan_free rfl ?_
      have h3 := hN 3 10 (by kernel_rfl)
      have h6 := hN 6 13 (by kernel_rfl)
      have h0 : S3 w e 900 13 902 10 14 912 (Value.slice none 0 0) ([]) ([UInt8.ofNat e.o.toNat]) (be 8 e.s) ([]) false true false true false false a.tmps W := by
        have h := hS.1
        simp only [hl, h3, h6] at h
        exact h
      have h8 := hB 8 (by kernel_rfl)
      obtain ⟨v9, W9, HR, HO, HG, HV⟩ := app_own (h0.ch1 rfl rfl) ((h0.pd2 rfl rfl).1) h0.le (by simp only [List.length_append, be_len, bytesV_len, d6, List.length_nil, List.length_singleton, List.length_cons] at *; omega)
      refine plan_value (ex_append rfl rfl HR) ⟨_, rfl, ?_, trivial, trivial⟩
      refine ⟨?_, AsD.no h8⟩
      show S3 w e 900 13 902 10 14 912 (Value.slice none 0 0) ([]) ([UInt8.ofNat e.o.toNat]) (be 8 e.s) ([]) false (ℓ 6) false (ℓ 3) true false _ _
      rw [h3, h6]
      exact S3.app2 h0 (by rw [hZ]; decide) HO HG HV (by decide)
    · intro a W ℓ hZ hl hB hS hE hN hD
      refine plan_free rfl ?_
      refine plan_value ex_assign ⟨_, rfl, ⟨S3.put hS.1 (by simp) (by simp) (by simp) (by simp) (by simp) (by simp), AsD.set (by rw [hZ]; decide) (by decide) rfl⟩, trivial, trivial⟩
  · intro f w9 ℓ hl V hE
    clear hE
    have VO := end_own (f := f) (d := 3) (V.1.ch2 (hl 7 (by simp)) rfl) (V.2 (hl 8 (by simp))) (by kernel_rfl)
    have HPB := Lib.hid V.1.pb
    have HLE := Lib.hid V.1.le
    clear V hl
    simp only [setAll, List.setIfInBounds_toArray, List.set_cons_zero, List.set_cons_succ]
    generalize f 3 = cv3 at *
    obtain ⟨xs3, hxs3⟩ : ∃ xs, Hid (([] ++ [UInt8.ofNat e.o.toNat]) ++ be 8 e.s = xs) := ⟨_, Lib.hid rfl⟩
    rw [hxs3.out] at VO
    have l3 : xs3.length ≤ 9 := by
      rw [← hxs3.out]
      simp only [List.length_append, be_len, bytesV_len, d6, List.length_nil, List.length_singleton, List.length_cons] at *
      omega
    have HCH := Lib.hid VO
    clear VO
    go_wp2_with fail
    refine wp_region_cy (fun ℓ t W => S3 w e 18 22 902 19 23 912 (cv3) (xs3) (bytesV e.d) ([UInt8.ofNat e.k]) ([]) (ℓ 3) (ℓ 7) false (ℓ 4) (ℓ 8) false t W ∧ AsD 23 3 (ℓ 9) t) (fun _ _ => True) [IsV (cv3), IsV (.pointer (some ⟨w.heap.size, 2, none⟩)), IsV (.agg (vecA e.d)), fun _ _ => True, fun _ _ => True, IsV (.pointer (some ⟨w.heap.size, 8, none⟩)), IsV (.int .u8 (e.k : Int)), fun _ _ => True, fun _ _ => True, fun _ _ => True] ([(1, .pointer (some ⟨w.heap.size, 0, none⟩)), (3, cv3)] : List (Nat × Value)) (⟨rfl, rfl, trivial⟩) (n := 48) (by kernel_rfl) rfl (by kernel_rfl) ⟨S3.first HPB.out HLE.out HCH.out, fun x => by cases x⟩ (fun _ => trivial) (StabBy.get ?_) ?_ ?_
    · repeat (first | exact trivial | refine ⟨fun _ _ _ _ h => h, ?_⟩)
    · refine ⟨?_, ⟨?_, ⟨?_, ⟨?_, ⟨?_, ⟨?_, ⟨?_, ⟨?_, ⟨?_, ⟨?_, trivial⟩⟩⟩⟩⟩⟩⟩⟩⟩⟩
      · intro a W ℓ hZ hl hB hS hE hN hD
        obtain ⟨_, x3, _⟩ := hE
        have e3 := x3 (by kernel_rfl)
        refine plan_free rfl ?_
        have k3 := e3
        refine plan_value ex_move ⟨_, rfl, ⟨S3.put hS.1 (by simp) (by simp) (by simp) (by simp) (by simp) (by simp), hS.2.put (by simp) (by simp)⟩, trivial, ?_⟩
        exact e3
      · intro a W ℓ hZ hl hB hS hE hN hD
        obtain ⟨x1, _, _⟩ := hE
        have e1 := x1 (by kernel_rfl)
        refine plan_free rfl ?_
        have k1 := e1
        refine plan_value (v := .pointer (some ⟨w.heap.size, 2, none⟩)) (w' := W) (by go_simp) ⟨_, rfl, ⟨S3.put hS.1 (by simp) (by simp) (by simp) (by simp) (by simp) (by simp), hS.2.put (by simp) (by simp)⟩, trivial, rfl⟩
      · intro a W ℓ hZ hl hB hS hE hN hD
        have k16 : a.tmps.getD 16 undef = .pointer (some ⟨w.heap.size, 2, none⟩) := hD 1 16 (by kernel_rfl)
        refine plan_free rfl ?_
        refine plan_value (ex_loadV k16 d6 hS.1.pb.src.dl) ⟨_, rfl, ⟨S3.put hS.1 (by simp) (by simp) (by simp) (by simp) (by simp) (by simp), hS.2.put (by simp) (by simp)⟩, trivial, rfl⟩
      · intro a W ℓ hZ hl hB hS hE hN hD
        have k17 : a.tmps.getD 17 undef = .agg (vecA e.d) := hD 2 17 (by kernel_rfl)
        refine plan_free rfl ?_
        have h4 := hB 4 (by kernel_rfl)
        have h8 := hB 8 (by kernel_rfl)
        have h0 : S3 w e 18 22 902 19 23 912 (cv3) (xs3) (bytesV e.d) ([UInt8.ofNat e.k]) ([]) false (ℓ 7) false false false false a.tmps W := by
          have h := hS.1
          simp only [hl, h4, h8] at h
          exact h
        refine plan_call (f := 65) (args := #[a.tmps.getD 17 undef]) (by kernel_rfl) ?_
        rw [k17]
        refine (rbytes_any e.d d6 FD W).mono ?_
        rintro _ W2 ⟨A9, n9, c9, rfl, _, HO, HB⟩
        refine ⟨_, rfl, _, rfl, ?_, trivial, trivial⟩
        refine ⟨?_, hS.2.put (by simp) (by simp)⟩
        show S3 w e 18 22 902 19 23 912 (cv3) (xs3) (bytesV e.d) ([UInt8.ofNat e.k]) ([]) true (ℓ 7) false (ℓ 4) (ℓ 8) false _ _
        rw [h4, h8]
        exact S3.call1 h0 HB HO (by rw [hZ]; decide) rfl rfl rfl (by decide) (by decide) (by decide) (by decide) (by decide)
      · intro a W ℓ hZ hl hB hS hE hN hD
        have k15 : a.tmps.getD 15 undef = cv3 := hD 0 15 (by kernel_rfl)
        refine plan_free rfl ?_
        have h8 := hB 8 (by kernel_rfl)
        have h3 := hN 3 18 (by kernel_rfl)
        have h0 : S3 w e 18 22 902 19 23 912 (cv3) (xs3) (bytesV e.d) ([UInt8.ofNat e.k]) ([]) true (ℓ 7) false false false false a.tmps W := by
          have h := hS.1
          simp only [hl, h8, h3] at h
          exact h
        obtain ⟨v9, W9, HR, HO, HG, HV⟩ := app_own (h0.ch0 rfl) ((h0.pd1 rfl rfl).1) h0.le (by simp only [List.length_append, be_len, bytesV_len, d6, List.length_nil, List.length_singleton, List.length_cons] at *; omega)
        refine plan_value (ex_append k15 rfl HR) ⟨_, rfl, ?_, trivial, trivial⟩
        refine ⟨?_, hS.2.put (by simp) (by simp)⟩
        show S3 w e 18 22 902 19 23 912 (cv3) (xs3) (bytesV e.d) ([UInt8.ofNat e.k]) ([]) (ℓ 3) (ℓ 7) false true (ℓ 8) false _ _
        rw [h8, h3]
        exact S3.app1 h0 (by rw [hZ]; decide) HO HG HV (by decide) (by decide)
      · intro a W ℓ hZ hl hB hS hE hN hD
        obtain ⟨x1, _, _⟩ := hE
        have e1 := x1 (by kernel_rfl)
        refine plan_free rfl ?_
        have k1 := e1
        refine plan_value (v := .pointer (some ⟨w.heap.size, 8, none⟩)) (w' := W) (by go_simp) ⟨_, rfl, ⟨S3.put hS.1 (by simp) (by simp) (by simp) (by simp) (by simp) (by simp), hS.2.put (by simp) (by simp)⟩, trivial, rfl⟩
      · intro a W ℓ hZ hl hB hS hE hN hD
        have k20 : a.tmps.getD 20 undef = .pointer (some ⟨w.heap.size, 8, none⟩) := hD 5 20 (by kernel_rfl)
        refine plan_free rfl ?_
        have cc := hS.1.pb.src.k
        refine plan_value (v := .int .u8 (e.k : Int)) (w' := W) (by go_simp) ⟨_, rfl, ⟨S3.put hS.1 (by simp) (by simp) (by simp) (by simp) (by simp) (by simp), hS.2.put (by simp) (by simp)⟩, trivial, rfl⟩
      · intro a W ℓ hZ hl hB hS hE hN hD
        have k21 : a.tmps.getD 21 undef = .int .u8 (e.k : Int) := hD 6 21 (by kernel_rfl)
        refine plan_free rfl ?_
        have h8 := hB 8 (by kernel_rfl)
        have h0 : S3 w e 18 22 902 19 23 912 (cv3) (xs3) (bytesV e.d) ([UInt8.ofNat e.k]) ([]) (ℓ 3) false false (ℓ 4) false false a.tmps W := by
          have h := hS.1
          simp only [hl, h8] at h
          exact h
        have HO := own_lit W W.heap.size (Nat.le_refl _) 5 (UInt8.ofNat e.k)
        rw [show ((((UInt8.ofNat e.k : UInt8).toNat : Nat)) : Int) = (e.k : Int) from b8_int _ FK] at HO
        have HB := (Below.refl W.heap.size W).alloc (Nat.le_refl _) (.cells #[.int .u8 (e.k : Int)] 5)
        refine plan_value (ex_lit k21) ⟨_, rfl, ?_, trivial, trivial⟩
        refine ⟨?_, hS.2.put (by simp) (by simp)⟩
        show S3 w e 18 22 902 19 23 912 (cv3) (xs3) (bytesV e.d) ([UInt8.ofNat e.k]) ([]) (ℓ 3) true false (ℓ 4) (ℓ 8) false _ _
        rw [h8]
        exact S3.call2 h0 HB HO (by rw [hZ]; decide) rfl rfl (by decide) (by decide) (by decide) (by decide) (by decide)
      · intro a W ℓ hZ hl hB hS hE hN hD
        refine plan_free rfl ?_
        have h4 := hN 4 19 (by kernel_rfl)
        have h7 := hN 7 22 (by kernel_rfl)
        have h0 : S3 w e 18 22 902 19 23 912 (cv3) (xs3) (bytesV e.d) ([UInt8.ofNat e.k]) ([]) (ℓ 3) true false true false false a.tmps W := by
          have h := hS.1
          simp only [hl, h4, h7] at h
          exact h
        have h9 := hB 9 (by kernel_rfl)
        obtain ⟨v9, W9, HR, HO, HG, HV⟩ := app_own (h0.ch1 rfl rfl) ((h0.pd2 rfl rfl).1) h0.le (by simp only [List.length_append, be_len, bytesV_len, d6, List.length_nil, List.length_singleton, List.length_cons] at *; omega)
        refine plan_value (ex_append rfl rfl HR) ⟨_, rfl, ?_, trivial, trivial⟩
        refine ⟨?_, AsD.no h9⟩
        show S3 w e 18 22 902 19 23 912 (cv3) (xs3) (bytesV e.d) ([UInt8.ofNat e.k]) ([]) (ℓ 3) (ℓ 7) false (ℓ 4) true false _ _
        rw [h4, h7]
        exact S3.app2 h0 (by rw [hZ]; decide) HO HG HV (by decide)
      · intro a W ℓ hZ hl hB hS hE hN hD
        refine plan_free rfl ?_
        refine plan_value ex_assign ⟨_, rfl, ⟨S3.put hS.1 (by simp) (by simp) (by simp) (by simp) (by simp) (by simp), AsD.set (by rw [hZ]; decide) (by decide) rfl⟩, trivial, trivial⟩
    · intro f w9 ℓ hl V hE
      clear hE
      have VO := end_own (f := f) (d := 3) (V.1.ch2 (hl 8 (by simp)) rfl) (V.2 (hl 9 (by simp))) (by kernel_rfl)
      have HPB := Lib.hid V.1.pb
      have HLE := Lib.hid V.1.le
      clear V hl
      simp only [setAll, List.setIfInBounds_toArray, List.set_cons_zero, List.set_cons_succ]
      generalize f 3 = cv4 at *
      obtain ⟨xs4, hxs4⟩ : ∃ xs, Hid ((xs3 ++ bytesV e.d) ++ [UInt8.ofNat e.k] = xs) := ⟨_, Lib.hid rfl⟩
      rw [hxs4.out] at VO
      have l4 : xs4.length ≤ 58 := by
        rw [← hxs4.out]
        simp only [List.length_append, be_len, bytesV_len, d6, List.length_nil, List.length_singleton, List.length_cons] at *
        omega
      have HCH := Lib.hid VO
      clear VO
      go_wp2_with fail
      refine wp_region_cy (fun ℓ t W => S3 w e 27 32 902 28 33 912 (cv4) (xs4) (be 8 e.n) ([UInt8.ofNat e.t.toNat]) ([]) (ℓ 3) (ℓ 8) false (ℓ 4) (ℓ 9) false t W ∧ AsD 33 3 (ℓ 10) t) (fun _ _ => True) [IsV (cv4), IsV (.pointer (some ⟨w.heap.size, 9, none⟩)), IsV (.int .u64 (e.n : Int)), fun _ _ => True, fun _ _ => True, IsV (.pointer (some ⟨w.heap.size, 10, none⟩)), IsV (.int .i64 e.t), IsV (.int .u8 e.t), fun _ _ => True, fun _ _ => True, fun _ _ => True] ([(1, .pointer (some ⟨w.heap.size, 0, none⟩)), (3, cv4)] : List (Nat × Value)) (⟨rfl, rfl, trivial⟩) (n := 48) (by kernel_rfl) rfl (by kernel_rfl) ⟨S3.first HPB.out HLE.out HCH.out, fun x => by cases x⟩ (fun _ => trivial) (StabBy.get ?_) ?_ ?_
      · repeat (first | exact trivial | refine ⟨fun _ _ _ _ h => h, ?_⟩)
      · refine ⟨?_, ⟨?_, ⟨?_, ⟨?_, ⟨?_, ⟨?_, ⟨?_, ⟨?_, ⟨?_, ⟨?_, ⟨?_, trivial⟩⟩⟩⟩⟩⟩⟩⟩⟩⟩⟩
        · intro a W ℓ hZ hl hB hS hE hN hD
          obtain ⟨_, x3, _⟩ := hE
          have e3 := x3 (by kernel_rfl)
          refine plan_free rfl ?_
          have k3 := e3
          refine plan_value ex_move ⟨_, rfl, ⟨S3.put hS.1 (by simp) (by simp) (by simp) (by simp) (by simp) (by simp), hS.2.put (by simp) (by simp)⟩, trivial, ?_⟩
          exact e3
        · intro a W ℓ hZ hl hB hS hE hN hD
          obtain ⟨x1, _, _⟩ := hE
          have e1 := x1 (by kernel_rfl)
          refine plan_free rfl ?_
          have k1 := e1
          refine plan_value (v := .pointer (some ⟨w.heap.size, 9, none⟩)) (w' := W) (by go_simp) ⟨_, rfl, ⟨S3.put hS.1 (by simp) (by simp) (by simp) (by simp) (by simp) (by simp), hS.2.put (by simp) (by simp)⟩, trivial, rfl⟩
        · intro a W ℓ hZ hl hB hS hE hN hD
          have k25 : a.tmps.getD 25 undef = .pointer (some ⟨w.heap.size, 9, none⟩) := hD 1 25 (by kernel_rfl)
          refine plan_free rfl ?_
          have cc := hS.1.pb.src.n
          refine plan_value (v := .int .u64 (e.n : Int)) (w' := W) (by go_simp) ⟨_, rfl, ⟨S3.put hS.1 (by simp) (by simp) (by simp) (by simp) (by simp) (by simp), hS.2.put (by simp) (by simp)⟩, trivial, rfl⟩
        · intro a W ℓ hZ hl hB hS hE hN hD
          have k26 : a.tmps.getD 26 undef = .int .u64 (e.n : Int) := hD 2 26 (by kernel_rfl)
          refine plan_free rfl ?_
          have h4 := hB 4 (by kernel_rfl)
          have h9 := hB 9 (by kernel_rfl)
          have h0 : S3 w e 27 32 902 28 33 912 (cv4) (xs4) (be 8 e.n) ([UInt8.ofNat e.t.toNat]) ([]) false (ℓ 8) false false false false a.tmps W := by
            have h := hS.1
            simp only [hl, h4, h9] at h
            exact h
          refine plan_call (f := 64) (args := #[a.tmps.getD 26 undef]) (by kernel_rfl) ?_
          rw [k26]
          refine (word_z _ e.n rfl FN W).mono ?_
          rintro _ W2 ⟨A9, n9, c9, rfl, _, HO, HB⟩
          refine ⟨_, rfl, _, rfl, ?_, trivial, trivial⟩
          refine ⟨?_, hS.2.put (by simp) (by simp)⟩
          show S3 w e 27 32 902 28 33 912 (cv4) (xs4) (be 8 e.n) ([UInt8.ofNat e.t.toNat]) ([]) true (ℓ 8) false (ℓ 4) (ℓ 9) false _ _
          rw [h4, h9]
          exact S3.call1 h0 HB HO (by rw [hZ]; decide) rfl rfl rfl (by decide) (by decide) (by decide) (by decide) (by decide)
        · intro a W ℓ hZ hl hB hS hE hN hD
          have k24 : a.tmps.getD 24 undef = cv4 := hD 0 24 (by kernel_rfl)
          refine plan_free rfl ?_
          have h9 := hB 9 (by kernel_rfl)
          have h3 := hN 3 27 (by kernel_rfl)
          have h0 : S3 w e 27 32 902 28 33 912 (cv4) (xs4) (be 8 e.n) ([UInt8.ofNat e.t.toNat]) ([]) true (ℓ 8) false false false false a.tmps W := by
            have h := hS.1
            simp only [hl, h9, h3] at h
            exact h
          obtain ⟨v9, W9, HR, HO, HG, HV⟩ := app_own (h0.ch0 rfl) ((h0.pd1 rfl rfl).1) h0.le (by simp only [List.length_append, be_len, bytesV_len, d6, List.length_nil, List.length_singleton, List.length_cons] at *; omega)
          refine plan_value (ex_append k24 rfl HR) ⟨_, rfl, ?_, trivial, trivial⟩
          refine ⟨?_, hS.2.put (by simp) (by simp)⟩
          show S3 w e 27 32 902 28 33 912 (cv4) (xs4) (be 8 e.n) ([UInt8.ofNat e.t.toNat]) ([]) (ℓ 3) (ℓ 8) false true (ℓ 9) false _ _
          rw [h9, h3]
          exact S3.app1 h0 (by rw [hZ]; decide) HO HG HV (by decide) (by decide)
        · intro a W ℓ hZ hl hB hS hE hN hD
          obtain ⟨x1, _, _⟩ := hE
          have e1 := x1 (by kernel_rfl)
          refine plan_free rfl ?_
          have k1 := e1
          refine plan_value (v := .pointer (some ⟨w.heap.size, 10, none⟩)) (w' := W) (by go_simp) ⟨_, rfl, ⟨S3.put hS.1 (by simp) (by simp) (by simp) (by simp) (by simp) (by simp), hS.2.put (by simp) (by simp)⟩, trivial, rfl⟩
        · intro a W ℓ hZ hl hB hS hE hN hD
          have k29 : a.tmps.getD 29 undef = .pointer (some ⟨w.heap.size, 10, none⟩) := hD 5 29 (by kernel_rfl)
          refine plan_free rfl ?_
          have cc := hS.1.pb.src.t
          refine plan_value (v := .int .i64 e.t) (w' := W) (by go_simp) ⟨_, rfl, ⟨S3.put hS.1 (by simp) (by simp) (by simp) (by simp) (by simp) (by simp), hS.2.put (by simp) (by simp)⟩, trivial, rfl⟩
        · intro a W ℓ hZ hl hB hS hE hN hD
          have k30 : a.tmps.getD 30 undef = .int .i64 e.t := hD 6 30 (by kernel_rfl)
          refine plan_free rfl ?_
          refine plan_value (v := .int .u8 e.t) (w' := W) (by go_simp) ⟨_, rfl, ⟨S3.put hS.1 (by simp) (by simp) (by simp) (by simp) (by simp) (by simp), hS.2.put (by simp) (by simp)⟩, trivial, rfl⟩
        · intro a W ℓ hZ hl hB hS hE hN hD
          have k31 : a.tmps.getD 31 undef = .int .u8 e.t := hD 7 31 (by kernel_rfl)
          refine plan_free rfl ?_
          have h9 := hB 9 (by kernel_rfl)
          have h0 : S3 w e 27 32 902 28 33 912 (cv4) (xs4) (be 8 e.n) ([UInt8.ofNat e.t.toNat]) ([]) (ℓ 3) false false (ℓ 4) false false a.tmps W := by
            have h := hS.1
            simp only [hl, h9] at h
            exact h
          have HO := own_lit W W.heap.size (Nat.le_refl _) 5 (UInt8.ofNat e.t.toNat)
          rw [show ((((UInt8.ofNat e.t.toNat : UInt8).toNat : Nat)) : Int) = e.t from b8_z FT.1 FT.2] at HO
          have HB := (Below.refl W.heap.size W).alloc (Nat.le_refl _) (.cells #[.int .u8 e.t] 5)
          refine plan_value (ex_lit k31) ⟨_, rfl, ?_, trivial, trivial⟩
          refine ⟨?_, hS.2.put (by simp) (by simp)⟩
          show S3 w e 27 32 902 28 33 912 (cv4) (xs4) (be 8 e.n) ([UInt8.ofNat e.t.toNat]) ([]) (ℓ 3) true false (ℓ 4) (ℓ 9) false _ _
          rw [h9]
          exact S3.call2 h0 HB HO (by rw [hZ]; decide) rfl rfl (by decide) (by decide) (by decide) (by decide) (by decide)
        · intro a W ℓ hZ hl hB hS hE hN hD
          refine plan_free rfl ?_
          have h4 := hN 4 28 (by kernel_rfl)
          have h8 := hN 8 32 (by kernel_rfl)
          have h0 : S3 w e 27 32 902 28 33 912 (cv4) (xs4) (be 8 e.n) ([UInt8.ofNat e.t.toNat]) ([]) (ℓ 3) true false true false false a.tmps W := by
            have h := hS.1
            simp only [hl, h4, h8] at h
            exact h
          have h10 := hB 10 (by kernel_rfl)
          obtain ⟨v9, W9, HR, HO, HG, HV⟩ := app_own (h0.ch1 rfl rfl) ((h0.pd2 rfl rfl).1) h0.le (by simp only [List.length_append, be_len, bytesV_len, d6, List.length_nil, List.length_singleton, List.length_cons] at *; omega)
          refine plan_value (ex_append rfl rfl HR) ⟨_, rfl, ?_, trivial, trivial⟩
          refine ⟨?_, AsD.no h10⟩
          show S3 w e 27 32 902 28 33 912 (cv4) (xs4) (be 8 e.n) ([UInt8.ofNat e.t.toNat]) ([]) (ℓ 3) (ℓ 8) false (ℓ 4) true false _ _
          rw [h4, h8]
          exact S3.app2 h0 (by rw [hZ]; decide) HO HG HV (by decide)
        · intro a W ℓ hZ hl hB hS hE hN hD
          refine plan_free rfl ?_
          refine plan_value ex_assign ⟨_, rfl, ⟨S3.put hS.1 (by simp) (by simp) (by simp) (by simp) (by simp) (by simp), AsD.set (by rw [hZ]; decide) (by decide) rfl⟩, trivial, trivial⟩
      · intro f w9 ℓ hl V hE
        clear hE
        have VO := end_own (f := f) (d := 3) (V.1.ch2 (hl 9 (by simp)) rfl) (V.2 (hl 10 (by simp))) (by kernel_rfl)
        have HPB := Lib.hid V.1.pb
        have HLE := Lib.hid V.1.le
        clear V hl
        simp only [setAll, List.setIfInBounds_toArray, List.set_cons_zero, List.set_cons_succ]
        generalize f 3 = cv5 at *
        obtain ⟨xs5, hxs5⟩ : ∃ xs, Hid ((xs4 ++ be 8 e.n) ++ [UInt8.ofNat e.t.toNat] = xs) := ⟨_, Lib.hid rfl⟩
        rw [hxs5.out] at VO
        have l5 : xs5.length ≤ 67 := by
          rw [← hxs5.out]
          simp only [List.length_append, be_len, bytesV_len, d6, List.length_nil, List.length_singleton, List.length_cons] at *
          omega
        have HCH := Lib.hid VO
        clear VO
        go_wp2_with fail
        refine wp_region_cy (fun ℓ t W => S3 w e 38 42 46 39 43 47 (cv5) (xs5) (be 8 e.a.toNat) (be 8 e.r) (be 8 e.f) (ℓ 4) (ℓ 8) (ℓ 12) (ℓ 5) (ℓ 9) (ℓ 13) t W ∧ AsD 47 2 (ℓ 14) t) (fun _ _ => True) [IsV (cv5), IsV (.pointer (some ⟨w.heap.size, 11, none⟩)), IsV (.int .i64 e.a), IsV (.int .u64 e.a), fun _ _ => True, fun _ _ => True, IsV (.pointer (some ⟨w.heap.size, 12, none⟩)), IsV (.int .u64 (e.r : Int)), fun _ _ => True, fun _ _ => True, IsV (.pointer (some ⟨w.heap.size, 13, none⟩)), IsV (.int .u64 (e.f : Int)), fun _ _ => True, fun _ _ => True, fun _ _ => True] ([(1, .pointer (some ⟨w.heap.size, 0, none⟩)), (3, cv5)] : List (Nat × Value)) (⟨rfl, rfl, trivial⟩) (n := 48) (by kernel_rfl) rfl (by kernel_rfl) ⟨S3.first HPB.out HLE.out HCH.out, fun x => by cases x⟩ (fun _ => trivial) (StabBy.get ?_) ?_ ?_
        · repeat (first | exact trivial | refine ⟨fun _ _ _ _ h => h, ?_⟩)
        · refine ⟨?_, ⟨?_, ⟨?_, ⟨?_, ⟨?_, ⟨?_, ⟨?_, ⟨?_, ⟨?_, ⟨?_, ⟨?_, ⟨?_, ⟨?_, ⟨?_, ⟨?_, trivial⟩⟩⟩⟩⟩⟩⟩⟩⟩⟩⟩⟩⟩⟩⟩
          · intro a W ℓ hZ hl hB hS hE hN hD
            obtain ⟨_, x3, _⟩ := hE
            have e3 := x3 (by kernel_rfl)
            refine plan_free rfl ?_
            have k3 := e3
            refine plan_value ex_move ⟨_, rfl, ⟨S3.put hS.1 (by simp) (by simp) (by simp) (by simp) (by simp) (by simp), hS.2.put (by simp) (by simp)⟩, trivial, ?_⟩
            exact e3
          · intro a W ℓ hZ hl hB hS hE hN hD
            obtain ⟨x1, _, _⟩ := hE
            have e1 := x1 (by kernel_rfl)
            refine plan_free rfl ?_
            have k1 := e1
            refine plan_value (v := .pointer (some ⟨w.heap.size, 11, none⟩)) (w' := W) (by go_simp) ⟨_, rfl, ⟨S3.put hS.1 (by simp) (by simp) (by simp) (by simp) (by simp) (by simp), hS.2.put (by simp) (by simp)⟩, trivial, rfl⟩
          · intro a W ℓ hZ hl hB hS hE hN hD
            have k35 : a.tmps.getD 35 undef = .pointer (some ⟨w.heap.size, 11, none⟩) := hD 1 35 (by kernel_rfl)
            refine plan_free rfl ?_
            have cc := hS.1.pb.src.a
            refine plan_value (v := .int .i64 e.a) (w' := W) (by go_simp) ⟨_, rfl, ⟨S3.put hS.1 (by simp) (by simp) (by simp) (by simp) (by simp) (by simp), hS.2.put (by simp) (by simp)⟩, trivial, rfl⟩
          · intro a W ℓ hZ hl hB hS hE hN hD
            have k36 : a.tmps.getD 36 undef = .int .i64 e.a := hD 2 36 (by kernel_rfl)
            refine plan_free rfl ?_
            refine plan_value (v := .int .u64 e.a) (w' := W) (by go_simp) ⟨_, rfl, ⟨S3.put hS.1 (by simp) (by simp) (by simp) (by simp) (by simp) (by simp), hS.2.put (by simp) (by simp)⟩, trivial, rfl⟩
          · intro a W ℓ hZ hl hB hS hE hN hD
            have k37 : a.tmps.getD 37 undef = .int .u64 e.a := hD 3 37 (by kernel_rfl)
            refine plan_free rfl ?_
            have h5 := hB 5 (by kernel_rfl)
            have h9 := hB 9 (by kernel_rfl)
            have h13 := hB 13 (by kernel_rfl)
            have h0 : S3 w e 38 42 46 39 43 47 (cv5) (xs5) (be 8 e.a.toNat) (be 8 e.r) (be 8 e.f) false (ℓ 8) (ℓ 12) false false false a.tmps W := by
              have h := hS.1
              simp only [hl, h5, h9, h13] at h
              exact h
            refine plan_call (f := 64) (args := #[a.tmps.getD 37 undef]) (by kernel_rfl) ?_
            rw [k37]
            refine (word_z _ e.a.toNat XA.out FA W).mono ?_
            rintro _ W2 ⟨A9, n9, c9, rfl, _, HO, HB⟩
            refine ⟨_, rfl, _, rfl, ?_, trivial, trivial⟩
            refine ⟨?_, hS.2.put (by simp) (by simp)⟩
            show S3 w e 38 42 46 39 43 47 (cv5) (xs5) (be 8 e.a.toNat) (be 8 e.r) (be 8 e.f) true (ℓ 8) (ℓ 12) (ℓ 5) (ℓ 9) (ℓ 13) _ _
            rw [h5, h9, h13]
            exact S3.call1 h0 HB HO (by rw [hZ]; decide) rfl rfl rfl (by decide) (by decide) (by decide) (by decide) (by decide)
          · intro a W ℓ hZ hl hB hS hE hN hD
            have k34 : a.tmps.getD 34 undef = cv5 := hD 0 34 (by kernel_rfl)
            refine plan_free rfl ?_
            have h9 := hB 9 (by kernel_rfl)
            have h13 := hB 13 (by kernel_rfl)
            have h4 := hN 4 38 (by kernel_rfl)
            have h0 : S3 w e 38 42 46 39 43 47 (cv5) (xs5) (be 8 e.a.toNat) (be 8 e.r) (be 8 e.f) true (ℓ 8) (ℓ 12) false false false a.tmps W := by
              have h := hS.1
              simp only [hl, h9, h13, h4] at h
              exact h
            obtain ⟨v9, W9, HR, HO, HG, HV⟩ := app_own (h0.ch0 rfl) ((h0.pd1 rfl rfl).1) h0.le (by simp only [List.length_append, be_len, bytesV_len, d6, List.length_nil, List.length_singleton, List.length_cons] at *; omega)
            refine plan_value (ex_append k34 rfl HR) ⟨_, rfl, ?_, trivial, trivial⟩
            refine ⟨?_, hS.2.put (by simp) (by simp)⟩
            show S3 w e 38 42 46 39 43 47 (cv5) (xs5) (be 8 e.a.toNat) (be 8 e.r) (be 8 e.f) (ℓ 4) (ℓ 8) (ℓ 12) true (ℓ 9) (ℓ 13) _ _
            rw [h9, h13, h4]
            exact S3.app1 h0 (by rw [hZ]; decide) HO HG HV (by decide) (by decide)
          · intro a W ℓ hZ hl hB hS hE hN hD
            obtain ⟨x1, _, _⟩ := hE
            have e1 := x1 (by kernel_rfl)
            refine plan_free rfl ?_
            have k1 := e1
            refine plan_value (v := .pointer (some ⟨w.heap.size, 12, none⟩)) (w' := W) (by go_simp) ⟨_, rfl, ⟨S3.put hS.1 (by simp) (by simp) (by simp) (by simp) (by simp) (by simp), hS.2.put (by simp) (by simp)⟩, trivial, rfl⟩
          · intro a W ℓ hZ hl hB hS hE hN hD
            have k40 : a.tmps.getD 40 undef = .pointer (some ⟨w.heap.size, 12, none⟩) := hD 6 40 (by kernel_rfl)
            refine plan_free rfl ?_
            have cc := hS.1.pb.src.r
            refine plan_value (v := .int .u64 (e.r : Int)) (w' := W) (by go_simp) ⟨_, rfl, ⟨S3.put hS.1 (by simp) (by simp) (by simp) (by simp) (by simp) (by simp), hS.2.put (by simp) (by simp)⟩, trivial, rfl⟩
          · intro a W ℓ hZ hl hB hS hE hN hD
            have k41 : a.tmps.getD 41 undef = .int .u64 (e.r : Int) := hD 7 41 (by kernel_rfl)
            refine plan_free rfl ?_
            have h9 := hB 9 (by kernel_rfl)
            have h13 := hB 13 (by kernel_rfl)
            have h0 : S3 w e 38 42 46 39 43 47 (cv5) (xs5) (be 8 e.a.toNat) (be 8 e.r) (be 8 e.f) (ℓ 4) false (ℓ 12) (ℓ 5) false false a.tmps W := by
              have h := hS.1
              simp only [hl, h9, h13] at h
              exact h
            refine plan_call (f := 64) (args := #[a.tmps.getD 41 undef]) (by kernel_rfl) ?_
            rw [k41]
            refine (word_z _ e.r rfl FR W).mono ?_
            rintro _ W2 ⟨A9, n9, c9, rfl, _, HO, HB⟩
            refine ⟨_, rfl, _, rfl, ?_, trivial, trivial⟩
            refine ⟨?_, hS.2.put (by simp) (by simp)⟩
            show S3 w e 38 42 46 39 43 47 (cv5) (xs5) (be 8 e.a.toNat) (be 8 e.r) (be 8 e.f) (ℓ 4) true (ℓ 12) (ℓ 5) (ℓ 9) (ℓ 13) _ _
            rw [h9, h13]
            exact S3.call2 h0 HB HO (by rw [hZ]; decide) rfl rfl (by decide) (by decide) (by decide) (by decide) (by decide)
          · intro a W ℓ hZ hl hB hS hE hN hD
            refine plan_free rfl ?_
            have h5 := hN 5 39 (by kernel_rfl)
            have h13 := hB 13 (by kernel_rfl)
            have h8 := hN 8 42 (by kernel_rfl)
            have h0 : S3 w e 38 42 46 39 43 47 (cv5) (xs5) (be 8 e.a.toNat) (be 8 e.r) (be 8 e.f) (ℓ 4) true (ℓ 12) true false false a.tmps W := by
              have h := hS.1
              simp only [hl, h5, h13, h8] at h
              exact h
            obtain ⟨v9, W9, HR, HO, HG, HV⟩ := app_own (h0.ch1 rfl rfl) ((h0.pd2 rfl rfl).1) h0.le (by simp only [List.length_append, be_len, bytesV_len, d6, List.length_nil, List.length_singleton, List.length_cons] at *; omega)
            refine plan_value (ex_append rfl rfl HR) ⟨_, rfl, ?_, trivial, trivial⟩
            refine ⟨?_, hS.2.put (by simp) (by simp)⟩
            show S3 w e 38 42 46 39 43 47 (cv5) (xs5) (be 8 e.a.toNat) (be 8 e.r) (be 8 e.f) (ℓ 4) (ℓ 8) (ℓ 12) (ℓ 5) true (ℓ 13) _ _
            rw [h5, h13, h8]
            exact S3.app2 h0 (by rw [hZ]; decide) HO HG HV (by decide)
          · intro a W ℓ hZ hl hB hS hE hN hD
            obtain ⟨x1, _, _⟩ := hE
            have e1 := x1 (by kernel_rfl)
            refine plan_free rfl ?_
            have k1 := e1
            refine plan_value (v := .pointer (some ⟨w.heap.size, 13, none⟩)) (w' := W) (by go_simp) ⟨_, rfl, ⟨S3.put hS.1 (by simp) (by simp) (by simp) (by simp) (by simp) (by simp), hS.2.put (by simp) (by simp)⟩, trivial, rfl⟩
          · intro a W ℓ hZ hl hB hS hE hN hD
            have k44 : a.tmps.getD 44 undef = .pointer (some ⟨w.heap.size, 13, none⟩) := hD 10 44 (by kernel_rfl)
            refine plan_free rfl ?_
            have cc := hS.1.pb.src.f
            refine plan_value (v := .int .u64 (e.f : Int)) (w' := W) (by go_simp) ⟨_, rfl, ⟨S3.put hS.1 (by simp) (by simp) (by simp) (by simp) (by simp) (by simp), hS.2.put (by simp) (by simp)⟩, trivial, rfl⟩
          · intro a W ℓ hZ hl hB hS hE hN hD
            have k45 : a.tmps.getD 45 undef = .int .u64 (e.f : Int) := hD 11 45 (by kernel_rfl)
            refine plan_free rfl ?_
            have h13 := hB 13 (by kernel_rfl)
            have h0 : S3 w e 38 42 46 39 43 47 (cv5) (xs5) (be 8 e.a.toNat) (be 8 e.r) (be 8 e.f) (ℓ 4) (ℓ 8) false (ℓ 5) (ℓ 9) false a.tmps W := by
              have h := hS.1
              simp only [hl, h13] at h
              exact h
            refine plan_call (f := 64) (args := #[a.tmps.getD 45 undef]) (by kernel_rfl) ?_
            rw [k45]
            refine (word_z _ e.f rfl FF W).mono ?_
            rintro _ W2 ⟨A9, n9, c9, rfl, _, HO, HB⟩
            refine ⟨_, rfl, _, rfl, ?_, trivial, trivial⟩
            refine ⟨?_, hS.2.put (by simp) (by simp)⟩
            show S3 w e 38 42 46 39 43 47 (cv5) (xs5) (be 8 e.a.toNat) (be 8 e.r) (be 8 e.f) (ℓ 4) (ℓ 8) true (ℓ 5) (ℓ 9) (ℓ 13) _ _
            rw [h13]
            exact S3.call3 h0 HB HO (by rw [hZ]; decide) rfl (by decide) (by decide) (by decide) (by decide) (by decide)
          · intro a W ℓ hZ hl hB hS hE hN hD
            refine plan_free rfl ?_
            have h9 := hN 9 43 (by kernel_rfl)
            have h5 := hS.1.m1 h9
            have h12 := hN 12 46 (by kernel_rfl)
            have h0 : S3 w e 38 42 46 39 43 47 (cv5) (xs5) (be 8 e.a.toNat) (be 8 e.r) (be 8 e.f) (ℓ 4) (ℓ 8) true true true false a.tmps W := by
              have h := hS.1
              simp only [hl, h5, h9, h12] at h
              exact h
            have h14 := hB 14 (by kernel_rfl)
            obtain ⟨v9, W9, HR, HO, HG, HV⟩ := app_own (h0.ch2 rfl rfl) ((h0.pd3 rfl rfl).1) h0.le (by simp only [List.length_append, be_len, bytesV_len, d6, List.length_nil, List.length_singleton, List.length_cons] at *; omega)
            refine plan_value (ex_append rfl rfl HR) ⟨_, rfl, ?_, trivial, trivial⟩
            refine ⟨?_, AsD.no h14⟩
            show S3 w e 38 42 46 39 43 47 (cv5) (xs5) (be 8 e.a.toNat) (be 8 e.r) (be 8 e.f) (ℓ 4) (ℓ 8) (ℓ 12) (ℓ 5) (ℓ 9) true _ _
            rw [h5, h9, h12]
            exact S3.app3 h0 (by rw [hZ]; decide) HO HG
          · intro a W ℓ hZ hl hB hS hE hN hD
            refine plan_free rfl ?_
            refine plan_value ex_assign ⟨_, rfl, ⟨S3.put hS.1 (by simp) (by simp) (by simp) (by simp) (by simp) (by simp), AsD.set (by rw [hZ]; decide) (by decide) rfl⟩, trivial, trivial⟩
        · intro f w9 ℓ hl V hE
          clear hE
          have VO := end_own (f := f) (d := 2) (V.1.ch3 (hl 13 (by simp))) (V.2 (hl 14 (by simp))) (by kernel_rfl)
          have HPB := Lib.hid V.1.pb
          have HLE := Lib.hid V.1.le
          clear V hl
          simp only [setAll, List.setIfInBounds_toArray, List.set_cons_zero, List.set_cons_succ]
          generalize f 2 = cv6 at *
          obtain ⟨A, c, hv, hB, _⟩ := VO.open_
          have HO := Lib.hid VO
          clear VO hB
          subst hv
          go_wp2_with fail
          go_ret
          have hz : ((xs5 ++ be 8 e.a.toNat) ++ be 8 e.r) ++ be 8 e.f = evB e := by rw [← hxs5.out, ← hxs4.out, ← hxs3.out]; simp [evB, be_one]
          have h9 := HO.out
          rw [hz] at h9 ⊢
          exact ⟨A, _, c, rfl, rfl, own_base h9 (Nat.le_succ _), HPB.out.bel⟩
set_option maxRecDepth 100000 in
set_option maxHeartbeats 2000000 in
theorem rput_no (e : Ev) (h : e.ok) (hm : mayE e = false) (w : World) : Calls Try.prog 24 #[.agg (evA e)] w fun x w' => x = .returned (.slice none 0 0) ∧ Below w.heap.size w w' := by
  have P0 := PB.first (w := w) h.d6
  have le := P0.src.load
  have MY := Lib.hid (ermay_any e h)
  rw [hm] at MY
  have HP := Lib.hid P0
  clear P0 hm
  go_enter Try.func24, Try.ntmps24
  go_wp2_with fail
  refine (MY.out _).mono ?_
  rintro _ w2 ⟨rfl, hb⟩
  have VF := (HP.out.next hb).bel
  clear hb
  go_wp2_with fail
  go_ret
  exact ⟨rfl, VF⟩
theorem rput_any (e : Ev) (h : e.ok) (w : World) : Calls Try.prog 24 #[.agg (evA e)] w fun x w' => ∃ A n c, x = .returned (.slice A n c) ∧ n = (if mayE e = true then evB e else []).length ∧ OwnB w' w.heap.size 5 (.slice A n c) (if mayE e = true then evB e else []) ∧ Below w.heap.size w w' := by
  cases hm : mayE e
  · refine (rput_no e h hm w).mono ?_
    rintro _ w' ⟨rfl, hb⟩
    exact ⟨none, 0, 0, rfl, rfl, OwnB.nil_ _ _ _, hb⟩
  · simpa using rput_yes e h hm w
end Go.Proofs.Ytjihbjjekhncaaa
