import Derived.Test.YtnnhkanjneecjaaFrA
namespace Go.Proofs.Ytnnhkanjneecjaa
open Go.RowKit
/-! frame.Take: one frame. -/
theorem ftake_place (A : Option Addr) (n c : Nat) (a : Int) (w : World) (h : a < 0 ∨ (n : Int) < a) :
    Calls Try.prog 38 #[.slice A n c, .int .i64 a] w fun e w' => e = .returned (.tuple #[.slice none 0 0, .int .i64 0, .int .i64 1]) ∧ w = w' := by
  go_enter Try.func38, Try.ntmps38
  go_wp2_with fail
  refine (take_place 4 size4 A n c a w h).mono ?_
  rintro e w1 ⟨rfl, rfl⟩
  go_wp2_with fail
  go_ret3
  exact ⟨rfl, rfl⟩
theorem ftake_short (A : Option Addr) (c a : Nat) (bs : List UInt8) (w : World) (hb : Bytes w w.heap.size A bs) (hc : bs.length ≤ c) (hl : bs.length ≤ maxLen) (ha : a ≤ bs.length) (h : bs.length < a + 8) :
    Calls Try.prog 38 #[.slice A bs.length c, .int .i64 (a : Int)] w fun e w' => e = .returned (.tuple #[.slice none 0 0, .int .i64 0, .int .i64 5]) ∧ w = w' := by
  by_cases h4 : bs.length < a + 4
  · go_enter Try.func38, Try.ntmps38
    go_wp2_with fail
    refine (take_short 4 size4 A bs.length c a w ha h4 hl).mono ?_
    rintro e w1 ⟨rfl, rfl⟩
    go_wp2_with fail
    go_ret3
    exact ⟨rfl, rfl⟩
  · go_enter Try.func38, Try.ntmps38
    go_wp2_with fail
    refine (take_ok 4 size4 A bs.length c bs a w hb rfl hc hl (by omega)).mono ?_
    rintro e w1 ⟨rfl, rfl⟩
    generalize vl ((bs.drop a).take 4) = L
    rw [show ((a : Int) + ((4 : Nat) : Int)) = ((a + 4 : Nat) : Int) by omega]
    go_wp2_with fail
    refine (take_short 4 size4 A bs.length c (a + 4) w (by omega) (by omega) hl).mono ?_
    rintro e w1 ⟨rfl, rfl⟩
    go_wp2_with fail
    go_ret3
    exact ⟨rfl, rfl⟩
set_option maxHeartbeats 1000000 in
theorem ftake_far (A : Option Addr) (c a : Nat) (bs : List UInt8) (w : World) (hb : Bytes w w.heap.size A bs) (hc : bs.length ≤ c) (hl : bs.length ≤ maxLen) (ha : a + 8 ≤ bs.length) (h : 4096 < long bs a ∨ bs.length < a + 8 + long bs a) :
    Calls Try.prog 38 #[.slice A bs.length c, .int .i64 (a : Int)] w fun e w' => e = .returned (.tuple #[.slice none 0 0, .int .i64 0, .int .i64 5]) ∧ w = w' := by
  have hln := long_lt bs a
  have hl' := hl
  unfold maxLen at hl'
  have t1 := take_ok 4 size4 A bs.length c bs a w hb rfl hc hl (by omega)
  have t2 := take_ok 4 size4 A bs.length c bs (a + 4) w hb rfl hc hl (by omega)
  rw [show vl ((bs.drop a).take 4) = long bs a from rfl] at t1
  generalize long bs a = L at h hln t1
  generalize vl ((bs.drop (a + 4)).take 4) = S at t2
  rcases h with h | h
  · go_enter Try.func38, Try.ntmps38
    go_wp2_with fail
    refine t1.mono ?_
    rintro e w1 ⟨rfl, rfl⟩
    rw [show ((a : Int) + ((4 : Nat) : Int)) = ((a + 4 : Nat) : Int) by omega]
    go_wp2_with fail
    refine t2.mono ?_
    rintro e w1 ⟨rfl, rfl⟩
    have h' : (4096 : Int) < (L : Int) := by omega
    go_wp2_with fail
    go_ret3
    exact ⟨rfl, rfl⟩
  · by_cases h0 : 4096 < L
    · go_enter Try.func38, Try.ntmps38
      go_wp2_with fail
      refine t1.mono ?_
      rintro e w1 ⟨rfl, rfl⟩
      rw [show ((a : Int) + ((4 : Nat) : Int)) = ((a + 4 : Nat) : Int) by omega]
      go_wp2_with fail
      refine t2.mono ?_
      rintro e w1 ⟨rfl, rfl⟩
      have h' : (4096 : Int) < (L : Int) := by omega
      go_wp2_with fail
      go_ret3
      exact ⟨rfl, rfl⟩
    · go_enter Try.func38, Try.ntmps38
      go_wp2_with fail
      refine t1.mono ?_
      rintro e w1 ⟨rfl, rfl⟩
      rw [show ((a : Int) + ((4 : Nat) : Int)) = ((a + 4 : Nat) : Int) by omega]
      go_wp2_with fail
      refine t2.mono ?_
      rintro e w1 ⟨rfl, rfl⟩
      have h' : ¬ (4096 : Int) < (L : Int) := by omega
      go_wp2_with fail
      go_ret3
      exact ⟨rfl, rfl⟩
set_option maxHeartbeats 2000000 in
theorem ftake_sum (A : Option Addr) (c a L S : Nat) (bs s hs : List UInt8) (X : BitVec 32) (w : World) (hb : Bytes w w.heap.size A bs) (hc : bs.length ≤ c) (hl : bs.length ≤ maxLen) (hcm : c ≤ maxLen) (ha : a + 8 + L ≤ bs.length) (hL : L ≤ 4096)
    (HN : Hid (long bs a = L)) (HS : Hid (sumAt bs a = S)) (HR : Hid (recAt bs a = s)) (HH : Hid ((bs.drop a).take 4 = hs)) (HX : Hid (cs (hs ++ s) = X)) :
    Calls Try.prog 38 #[.slice A bs.length c, .int .i64 (a : Int)] w fun e w' =>
      (X.toNat = S ∧ ∃ A' n' c', e = .returned (.tuple #[.slice A' n' c', .int .i64 ((a + 8 + L : Nat) : Int), .int .i64 0]) ∧ n' = s.length ∧ OwnB w' w.heap.size 5 (.slice A' n' c') s ∧ Below w.heap.size w w') ∨
      (¬ X.toNat = S ∧ e = .returned (.tuple #[.slice none 0 0, .int .i64 0, .int .i64 5]) ∧ Below w.heap.size w w') := by
  have hl' := hl
  unfold maxLen at hl' hcm
  have t1 := take_ok 4 size4 A bs.length c bs a w hb rfl hc hl (by omega)
  have t2 := take_ok 4 size4 A bs.length c bs (a + 4) w hb rfl hc hl (by omega)
  rw [show vl ((bs.drop a).take 4) = L from HN.out] at t1
  rw [show vl ((bs.drop (a + 4)).take 4) = S from HS.out] at t2
  obtain ⟨b, off, rfl, hB, _⟩ := hb.at_ (k := 0) (by omega)
  have hsl : s.length = L := by rw [← HR.out, ← HN.out]; exact recAt_len bs a (by rw [HN.out]; omega)
  have hhl : hs.length = 4 := by rw [← HH.out]; exact drop4 bs a (by omega)
  have b1 : Bytes w w.heap.size (some ⟨b, off + a, none⟩) hs := by
    have := cut_bytes hb a 4 (by omega)
    rw [HH.out] at this; exact this
  have b2 : Bytes w w.heap.size (some ⟨b, off + (a + 8), none⟩) s := by
    have := cut_bytes hb (a + 8) L (by omega)
    rw [show (bs.drop (a + 8)).take L = s from by rw [← HR.out, ← HN.out]; rfl] at this; exact this
  have hadd1 : (⟨b, off, none⟩ : Addr).add a = ⟨b, off + a, none⟩ := by unfold Addr.add; split <;> simp_all
  have hadd2 : (⟨b, off, none⟩ : Addr).add (a + 8) = ⟨b, off + (a + 8), none⟩ := by unfold Addr.add; split <;> simp_all
  have hX : X.toNat ≤ 4294967295 := by have := X.isLt; omega
  have SL := Lib.hid hsl
  have HHL := Lib.hid hhl
  clear hsl hhl
  have hak : a + 4 - a = 4 := by omega
  have hak2 : a + 8 + L - (a + 8) = L := by omega
  have fs := fun (W : World) (A2 : Option Addr) (n1 n2 c1 c2 : Nat) (h1 : Bytes W W.heap.size (some ⟨b, off + a, none⟩) hs) (h2 : Bytes W W.heap.size A2 s) (e1 : n1 = 4) (e2 : n2 = L) => fsum_any (some ⟨b, off + a, none⟩) A2 n1 n2 c1 c2 hs s W h1 (e1.trans HHL.out.symm) h2 (e2.trans SL.out.symm) (by rw [HHL.out]; decide) (by rw [SL.out]; unfold maxLen; omega)
  rw [HX.out, show U X = ((X.toNat : Nat) : Int) from rfl] at fs
  generalize X.toNat = x at hX fs ⊢
  have FS := Lib.hid fs
  clear fs
  have B1 := Lib.hid b1
  have B2 := Lib.hid b2
  clear b1 b2
  go_enter Try.func38, Try.ntmps38
  go_wp2_with fail
  refine t1.mono ?_
  rintro e w1 ⟨rfl, rfl⟩
  rw [show ((a : Int) + ((4 : Nat) : Int)) = ((a + 4 : Nat) : Int) by omega]
  go_wp2_with fail
  refine t2.mono ?_
  rintro e w1 ⟨rfl, rfl⟩
  have hap : Hid (([] : List UInt8) ++ s = s) := rfl
  have hw4 : IntKind.i64.wrap ((a : Int) + 4) = (a : Int) + 4 := by rw [IntKind.wrap_i64]; omega
  have hw64 : IntKind.u64.wrap (x : Int) = (x : Int) := by rw [IntKind.wrap_u64]; omega
  by_cases hcap : c = a + 8
  · have hL0 : L = 0 := by omega
    subst hL0 hcap
    clear hadd2 hak2
    go_wp2_with fail
    by_cases hS : x = S
    · subst hS
      go_region_with (go_at_call 55; refine (FS.out _ _ _ _ _ _ (by exact B1.out) (by rw [show s = [] from List.eq_nil_of_length_eq_zero SL.out]; exact no_bytes _ _ _) (by omega) (by omega)).mono ?_; rintro e w1 ⟨rfl, rfl⟩)
      all_goals go_wp2_with (at_builtin; refine wpList_ap2 rfl _ _ rfl rfl w.heap.size (.slice (some ⟨w.heap.size, 0, none⟩) 0 0) [] s s w.heap.size _ _ _ rfl rfl (by have := SL.out; omega) rfl (OwnB.made w.drew _ 5 (Nat.le_refl _)) (Reads.alloc (by rw [show s = [] from List.eq_nil_of_length_eq_zero SL.out]; exact no_bytes _ _ _) (Nat.le_refl _) _) (by have := SL.out; simp; omega) w ((Below.refl w.heap.size w).drew.alloc (Nat.le_refl _) _) (by simp) ?_; intro A3 c3 n3 W3 e3 h3 hB3 hl3 hbel3 hs3 hg3; clear hB3 hg3 hl3)
      all_goals go_ret3
      all_goals exact ⟨A3, n3, c3, congrArg (fun z => Ending.returned (.tuple #[.slice A3 n3 c3, .int .i64 z, .int .i64 0])) (show (a : Int) + 4 + 4 = _ by omega), e3.out, h3, hbel3⟩
    · have hne : ((x : Int) != (S : Int)) = true := by rw [bne_iff_ne]; omega
      go_region_with (go_at_call 55; refine (FS.out _ _ _ _ _ _ (by exact B1.out) (by rw [show s = [] from List.eq_nil_of_length_eq_zero SL.out]; exact no_bytes _ _ _) (by omega) (by omega)).mono ?_; rintro e w1 ⟨rfl, rfl⟩)
      all_goals go_wp2_with fail
      all_goals go_ret3
      all_goals exact .inr ⟨hS, rfl, (Below.refl w.heap.size w).drew⟩
  · go_wp2_with fail
    by_cases hS : x = S
    · subst hS
      go_region_with (go_at_call 55; refine (FS.out _ _ _ _ _ _ (by exact B1.out) (by exact B2.out) (by omega) (by omega)).mono ?_; rintro e w1 ⟨rfl, rfl⟩)
      all_goals go_wp2_with (at_builtin; refine wpList_ap2 rfl _ _ rfl rfl w.heap.size (.slice (some ⟨w.heap.size, 0, none⟩) 0 0) [] s s w.heap.size _ _ _ rfl rfl (by have := SL.out; omega) rfl (OwnB.made w.drew _ 5 (Nat.le_refl _)) (Reads.alloc (by exact B2.out) (Nat.le_refl _) _) (by have := SL.out; simp; omega) w ((Below.refl w.heap.size w).drew.alloc (Nat.le_refl _) _) (by simp) ?_; intro A3 c3 n3 W3 e3 h3 hB3 hl3 hbel3 hs3 hg3; clear hB3 hg3 hl3)
      all_goals go_ret3
      all_goals exact ⟨A3, n3, c3, congrArg (fun z => Ending.returned (.tuple #[.slice A3 n3 c3, .int .i64 z, .int .i64 0])) (show (a : Int) + 4 + 4 + (L : Int) = _ by omega), e3.out, h3, hbel3⟩
    · have hne : ((x : Int) != (S : Int)) = true := by rw [bne_iff_ne]; omega
      go_region_with (go_at_call 55; refine (FS.out _ _ _ _ _ _ (by exact B1.out) (by exact B2.out) (by omega) (by omega)).mono ?_; rintro e w1 ⟨rfl, rfl⟩)
      all_goals go_wp2_with fail
      all_goals go_ret3
      all_goals exact .inr ⟨hS, rfl, (Below.refl w.heap.size w).drew⟩
theorem ftake_any (A : Option Addr) (c a : Nat) (bs : List UInt8) (w : World) (hb : Bytes w w.heap.size A bs) (hc : bs.length ≤ c) (hl : bs.length ≤ maxLen) (hcm : c ≤ maxLen) (ha : a ≤ bs.length) :
    Calls Try.prog 38 #[.slice A bs.length c, .int .i64 (a : Int)] w fun e w' =>
      (fok bs a ∧ ∃ A' n' c', e = .returned (.tuple #[.slice A' n' c', .int .i64 ((fnx bs a : Nat) : Int), .int .i64 0]) ∧ n' = (recAt bs a).length ∧ OwnB w' w.heap.size 5 (.slice A' n' c') (recAt bs a) ∧ Below w.heap.size w w') ∨
      (¬ fok bs a ∧ e = .returned (.tuple #[.slice none 0 0, .int .i64 0, .int .i64 5]) ∧ Below w.heap.size w w') := by
  by_cases h8 : bs.length < a + 8
  · refine (ftake_short A c a bs w hb hc hl ha h8).mono ?_
    rintro e w' ⟨rfl, rfl⟩
    exact .inr ⟨fun h => by have := h.1; omega, rfl, Below.refl _ _⟩
  · by_cases hf : 4096 < long bs a ∨ bs.length < a + 8 + long bs a
    · refine (ftake_far A c a bs w hb hc hl (by omega) hf).mono ?_
      rintro e w' ⟨rfl, rfl⟩
      exact .inr ⟨fun h => by have h1 := h.1; have h2 := h.2.1; omega, rfl, Below.refl _ _⟩
    · refine (ftake_sum A c a (long bs a) (sumAt bs a) bs (recAt bs a) _ _ w hb hc hl hcm (by omega) (by omega) (show _ = _ from rfl) (show _ = _ from rfl) (show _ = _ from rfl) (show _ = _ from rfl) (show _ = _ from rfl)).mono ?_
      rintro e w' (⟨hx, h⟩ | ⟨hx, h⟩)
      · exact .inl ⟨⟨by omega, by omega, hx⟩, h⟩
      · exact .inr ⟨fun h' => hx h'.2.2, h⟩
end Go.Proofs.Ytnnhkanjneecjaa
