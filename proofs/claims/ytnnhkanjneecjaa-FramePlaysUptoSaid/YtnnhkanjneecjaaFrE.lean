import Derived.Test.YtnnhkanjneecjaaFrT
namespace Go.Proofs.Ytnnhkanjneecjaa
open Go.RowKit
/-! frame: the document's. -/
theorem rsum_cs (A : Option Addr) (n c : Nat) (bs : List UInt8) (w : World) (hb : Bytes w w.heap.size A bs) (hn : n = bs.length) (hl : bs.length ≤ maxLen) :
    Calls Try.prog 32 #[.slice A n c] w fun e w' => e = .returned (.int .u32 (U (cs bs))) ∧ w = w' := by
  subst hn; exact rsum_any A c bs w hb hl
theorem rput4_n (A : Option Addr) (m c : Nat) (bs : List UInt8) (n : Nat) (w : World) (hb : Bytes w w.heap.size A bs) (hm : m = bs.length) (hl : bs.length ≤ 1099511627776) (hn : n ≤ 4294967295) :
    Calls Try.prog 14 #[.slice A m c, .int .u64 (n : Int), .int .i64 4] w fun e w' => ∃ A' m' c', e = .returned (.tuple #[.slice A' m' c', .int .i64 0]) ∧ m' = (bs ++ be 4 n).length ∧ OwnB w' w.heap.size 5 (.slice A' m' c') (bs ++ be 4 n) ∧ Below w.heap.size w w' := by
  subst hm; exact rput_ok4 A c bs n w hb hl (by rw [top4]; exact hn) (by omega)
set_option maxHeartbeats 2000000 in
theorem rframe_any (B : Option Addr) (m d : Nat) (s : List UInt8) (w : World) (hb : Bytes w w.heap.size B s) (hm : m = s.length) (hl : s.length ≤ 4096) :
    Calls Try.prog 54 #[.slice B m d] w fun e w' => ∃ A n c, e = .returned (.slice A n c) ∧ n = (fr s).length ∧ OwnB w' w.heap.size 5 (.slice A n c) (fr s) ∧ Below w.heap.size w w' := by
  have hmx : m ≤ 4096 := by omega
  have M1 := Lib.hid hm
  clear hm
  go_enter Try.func54, Try.ntmps54
  go_wp2_with fail
  refine (rput4_n none 0 0 [] m w (no_bytes _ _ _) rfl (by simp) (by omega)).mono ?_
  rintro e w1 ⟨A1, n1, c1, rfl, hn1, hown1, hb1⟩
  have hs1 := hb1.size
  rw [List.nil_append] at hn1 hown1
  have x1 := (own_open hown1).1
  have y1 := Reads.more (Reads.below hb hb1) hs1
  have N1 := Lib.hid hn1
  have hbl : (be 4 m).length = 4 := be_len 4 m
  have BL := Lib.hid hbl
  clear hn1 hbl
  have P1 : Hid (([] : List UInt8) ++ be 4 m = be 4 m) := rfl
  have P2 : Hid (be 4 m ++ s = be 4 m ++ s) := rfl
  generalize hT : be 4 m ++ s = T at P2
  have TE := Lib.hid hT
  clear hT
  go_wp2_with (first
    | (at_builtin; refine wpList_ap2 rfl _ _ rfl rfl w1.heap.size (.slice (some ⟨w1.heap.size, 0, none⟩) 0 0) [] (be 4 m) (be 4 m) w1.heap.size A1 n1 c1 rfl rfl N1.out P1.out (OwnB.made w1 _ 5 (Nat.le_refl _)) (Reads.alloc x1 (Nat.le_refl _) _) (by rw [BL.out]; simp) w1 ((Below.refl _ _).alloc (Nat.le_refl _) _) (by simp) ?_; intro A3 c3 n3 w3 e3 h3 hB3 hl3 hbel3 hs3 hg3; clear hB3 hl3 hg3)
    | (at_builtin; refine wpList_ap2 rfl _ _ rfl rfl w1.heap.size (.slice A3 n3 c3) (be 4 m) s T w3.heap.size B m d rfl rfl M1.out TE.out h3 (Reads.more (Reads.below y1 hbel3) hs3) (by rw [BL.out]; omega) w1 hbel3 hs3 ?_; intro A4 c4 n4 w4 e4 h4 hB4 hl4 hbel4 hs4 hg4; clear hl4 hg4 h3 hbel3 hs3 e3))
  have hb14 := hb1.trans (hbel4.mono hs1)
  have hs14 := hb14.size
  refine (rsum_cs A4 n4 c4 T w4 hB4 e4.out (by rw [← TE.out, List.length_append, BL.out]; unfold maxLen; omega)).mono ?_
  rintro e w5 ⟨rfl, rfl⟩
  generalize hx : cs T = X
  have hX : X.toNat ≤ 4294967295 := by have := X.isLt; omega
  rw [show U X = ((X.toNat : Nat) : Int) from rfl]
  generalize hy : X.toNat = y at hX
  have x4 := Reads.more (Reads.below x1 hbel4) hs4
  have y4 := Reads.more (Reads.below y1 hbel4) hs4
  clear x1 y1 h4 hB4 hown1
  go_wp2_with fail
  refine (rput4_n A1 n1 c1 (be 4 m) y w4 x4 N1.out (by rw [BL.out]; omega) hX).mono ?_
  rintro e w6 ⟨A6, n6, c6, rfl, hn6, hown6, hb6⟩
  have e6 : be 4 m ++ be 4 y = hd s := by unfold hd; rw [← M1.out, TE.out, hx, hy]
  rw [e6] at hn6 hown6
  have N6 := Lib.hid hn6
  have hb16 := hb14.trans (hb6.mono hs14)
  have hs16 := hb16.size
  have y6 := Reads.more (Reads.below y4 hb6) hb6.size
  have P6 : Hid (hd s ++ s = fr s) := rfl
  have hh8 : (hd s).length = 8 := hd_len s
  have H8 := Lib.hid hh8
  have hown6' := own_less hown6 hs14
  clear hn6 e6 hh8 hx hy x4 y4 hown6
  go_wp2_with (at_builtin; refine wpList_ap2 rfl _ _ rfl rfl w.heap.size (.slice A6 n6 c6) (hd s) s (fr s) w6.heap.size B m d rfl rfl M1.out P6.out hown6' y6 (by rw [H8.out]; omega) w hb16 hs16 ?_; intro A7 c7 n7 w7 e7 h7 hB7 hl7 hbel7 hs7 hg7; clear hB7 hl7 hg7)
  go_ret
  exact ⟨A7, n7, c7, rfl, e7.out, h7, hbel7⟩
set_option maxHeartbeats 2000000 in
theorem rfput_any (A B : Option Addr) (n c m d : Nat) (bs : List UInt8) (l : List (List UInt8)) (w : World) (hb : Bytes w w.heap.size A bs) (hn : n = bs.length) (hl : Strs w w.heap.size B l) (hm : m = l.length)
    (hsum : bs.length + (encF l).length ≤ 1099511627776) (hll : l.length ≤ 1099511627776) :
    Calls Try.prog 37 #[.slice A n c, .slice B m d] w (AnswerO w (putFB bs l) (putFE l)) := by
  subst hn hm
  have P0 : Hid (([] : List UInt8) ++ bs = bs) := rfl
  go_enter Try.func37, Try.ntmps37
  go_wp2_with (at_builtin; refine wpList_ap2 rfl _ _ rfl rfl w.heap.size (.slice (some ⟨w.heap.size, 0, none⟩) 0 0) [] bs bs w.heap.size A bs.length c rfl rfl rfl P0.out (OwnB.made w _ 5 (Nat.le_refl _)) (Reads.alloc hb (Nat.le_refl _) _) (by simp; omega) w ((Below.refl _ _).alloc (Nat.le_refl _) _) (by simp) ?_; intro A3 c3 n3 W3 e3 h3 hB3 hl3 hbel3 hs3 hg3; clear hB3 hg3 hl3)
  have e3' : n3 = bs.length := e3.out
  have E3 := Lib.hid e3'
  clear e3 e3'
  have hans : ∀ (e : Ending) (w' : World), ((okF l = true ∧ ∃ A n c, e = .returned (.tuple #[.slice A n c, .int .i64 0]) ∧ n = (bs ++ encF l).length ∧ OwnB w' w.heap.size 5 (.slice A n c) (bs ++ encF l) ∧ Below w.heap.size w w') ∨ (okF l = false ∧ e = .returned (.tuple #[.slice none 0 0, .int .i64 6]) ∧ Below w.heap.size w w')) → AnswerO w (putFB bs l) (putFE l) e w' := by
    rintro e w' (⟨h, A, n, c, h1, h2, h3, h4⟩ | ⟨h, rfl, h4⟩)
    · unfold putFB putFE
      rw [h]
      exact ⟨A, n, c, h1, h2, h3, h4⟩
    · unfold putFB putFE
      rw [h]
      exact ⟨none, 0, 0, rfl, rfl, OwnB.nil_ _ _ _, h4⟩
  have ANS := Lib.hid hans
  clear hans
  go_loopw [6, 7] (fun v i wr => ∃ k : Nat, k ≤ l.length ∧ i = .int .i64 k ∧ ∃ A' n' c', v = .slice A' n' c' ∧ Hid (n' = (bs ++ encF (l.take k)).length) ∧ OwnB wr w.heap.size 5 (.slice A' n' c') (bs ++ encF (l.take k)) ∧ Below w.heap.size w wr ∧ okF (l.take k) = true) (fun _ i _ => l.length - (intOf i).toNat)
  case atStart => exact ⟨0, by omega, rfl, A3, n3, c3, rfl, by simpa [encF] using E3, by simpa [encF] using h3, hbel3, rfl⟩
  case round =>
    clear h3 hbel3 hs3 E3
    obtain ⟨k, hk, rfl, A1, n1, c1, rfl, e1, hown, hbw, hokk⟩ := hrel
    have hsz := hbw.size
    have HOK := Lib.hid hokk
    clear hokk
    by_cases hlt : k < l.length
    · obtain ⟨b, off, Ai, ci, rfl, hB, hcw, hBw, hli, hmi⟩ := hl.at_ hlt
      have hc := (hbw.cell (p := ⟨b, off + k, none⟩) hB).trans hcw
      have hBi := Reads.more (Reads.below hBw hbw) hsz
      clear hcw
      have hbad : Hid (4096 < l[k].length → okF l = false) := fun h => okF_no (List.getElem_mem hlt) h
      have hgood : Hid (l[k].length ≤ 4096 → okF (l.take (k + 1)) = true) := by
        show _ → _
        intro h
        refine okF_all fun x hx => ?_
        rw [List.take_succ_eq_append_getElem hlt] at hx
        rcases List.mem_append.1 hx with h' | h'
        · exact okF_yes HOK.out x h'
        · rw [List.mem_singleton.1 h']; exact h
      have hap : Hid (bs ++ encF (l.take k) ++ fr l[k] = bs ++ encF (l.take (k + 1))) := by show _ = _; rw [encF_take l k hlt, List.append_assoc]
      have hpre := encF_take_le l (k + 1)
      have hlen : (bs ++ encF (l.take (k + 1))).length ≤ 1099511627776 := by rw [List.length_append]; omega
      have hlen1 : (bs ++ encF (l.take k)).length ≤ 1099511627776 := by have := encF_take_le l k; rw [List.length_append]; omega
      clear hpre
      generalize l[k] = z at hc hBi hBw hli hbad hgood hap
      obtain ⟨T2, hT2⟩ : ∃ T2, T2 = bs ++ encF (l.take (k + 1)) := ⟨_, rfl⟩
      rw [← hT2] at hap hlen
      have HT2 := Lib.hid hT2
      clear hT2
      generalize bs ++ encF (l.take k) = T1 at e1 hown hap hlen1
      by_cases hz : 4096 < z.length
      · have hb := Lib.hid (hbad.out hz)
        clear hbad hgood hap
        go_wp2_with fail
        go_ret2
        exact ANS.out _ _ (.inr ⟨hb.out, rfl, hbw⟩)
      · have hg := Lib.hid (hgood.out (by omega))
        clear hbad hgood
        have hfl : Hid ((fr z).length = 8 + z.length) := fr_len z
        go_wp2_with fail
        refine (rframe_any Ai z.length ci z wr hBi rfl (by omega)).mono ?_
        rintro e w2 ⟨A2, n2, c2, rfl, hn2, hown2, hb2⟩
        have N2 := Lib.hid hn2
        have hs2 := hb2.size
        have x2 := (own_open hown2).1
        have hownB := own_below hown hb2
        have hbB := hbw.trans (hb2.mono hsz)
        have hsB := hbB.size
        clear hn2 hown hown2 hb2 hbw hBi
        go_wp2_with (at_builtin; refine wpList_ap2 rfl _ _ rfl rfl w.heap.size (.slice A1 n1 c1) T1 (fr z) T2 w2.heap.size A2 n2 c2 rfl rfl N2.out hap.out hownB x2 (by rw [hfl.out]; omega) w hbB hsB ?_; intro A4 c4 n4 W4 e4 h4 hB4 hl4 hbel4 hs4 hg4; clear hB4 hl4 hg4)
        go_roundw
        case rel => exact ⟨k + 1, by omega, by go_num, A4, n4, c4, rfl, by rw [← HT2.out]; exact e4, by rw [← HT2.out]; exact h4, hbel4, hg.out⟩
        case measure => simp [intOf]; omega
    · obtain rfl : k = l.length := by omega
      have hokl := HOK.out
      rw [List.take_length] at hokl e1 hown
      have HO := Lib.hid hokl
      clear hokl HOK
      go_wp2_with fail
      go_ret2
      exact ANS.out _ _ (.inl ⟨HO.out, A1, n1, c1, rfl, e1.out, hown, hbw⟩)
theorem strB_toList (l : List UInt8) : (strB l).toList = l := by
  unfold strB
  simp
theorem strB_ne {a b : List UInt8} (h : ¬ a = b) : ¬ strB a = strB b := fun e => h (by rw [← strB_toList a, ← strB_toList b, e])
theorem fok_fr (bs : List UInt8) (a : Nat) (h1 : a + 8 + long bs a ≤ bs.length) (h : fr (recAt bs a) = (bs.drop a).take (8 + long bs a)) : (csAt bs a).toNat = sumAt bs a := by
  have hl := recAt_len bs a h1
  have e1 := be_long bs a (by omega)
  unfold fr hd at h
  rw [hl, e1, show 8 + long bs a = 4 + (4 + long bs a) by omega, List.take_add, List.append_assoc] at h
  have h2 := List.append_cancel_left h
  rw [List.take_add, List.drop_drop] at h2
  have h3 := (List.append_inj h2 (by rw [be_len, drop4 bs (a + 4) (by omega)])).1
  unfold csAt sumAt
  rw [← h3, vl_be4 _ (BitVec.isLt _)]
/-- the document's Take, where a frame stands. -/
theorem rfok_iff (bs : List UInt8) (a : Nat) (h1 : a + 8 + long bs a ≤ bs.length) (h2 : long bs a ≤ 4096) : fok bs a ↔ fr (recAt bs a) = (bs.drop a).take (8 + long bs a) :=
  ⟨fun h => fr_at bs a h, fun h => ⟨h1, h2, fok_fr bs a h1 h⟩⟩
theorem rtake4_n (A : Option Addr) (m c : Nat) (bs : List UInt8) (a : Nat) (w : World) (hb : Bytes w w.heap.size A bs) (hm : m = bs.length) (hl : bs.length ≤ maxLen) (ha : a + 4 ≤ bs.length) :
    Calls Try.prog 16 #[.slice A m c, .int .i64 (a : Int), .int .i64 4] w fun e w' => e = .returned (.tuple #[.int .u64 ((long bs a : Nat) : Int), .int .i64 ((a : Int) + 4), .int .i64 0]) ∧ w = w' :=
  rtake_ok 4 size4 A m c bs a w hb hm hl ha
theorem rftake_place (A : Option Addr) (n c : Nat) (a : Int) (w : World) (h : a < 0 ∨ (n : Int) < a) :
    Calls Try.prog 39 #[.slice A n c, .int .i64 a] w fun e w' => e = .returned (.tuple #[.slice none 0 0, .int .i64 0, .int .i64 1]) ∧ w = w' := by
  rcases h with h | h
  case' inr => by_cases h0 : a < 0
  all_goals
    go_enter Try.func39, Try.ntmps39
    go_wp2_with fail
    go_ret3
    exact ⟨rfl, rfl⟩
theorem rftake_short (A : Option Addr) (c a : Nat) (bs : List UInt8) (w : World) (hl : bs.length ≤ maxLen) (ha : a ≤ bs.length) (h : bs.length < a + 8) :
    Calls Try.prog 39 #[.slice A bs.length c, .int .i64 (a : Int)] w fun e w' => e = .returned (.tuple #[.slice none 0 0, .int .i64 0, .int .i64 5]) ∧ w = w' := by
  unfold maxLen at hl
  have h1 : ¬ (a : Int) < 0 := by omega
  have h2 : ¬ (bs.length : Int) < (a : Int) := by omega
  have h3 : (bs.length : Int) - (a : Int) < 8 := by omega
  go_enter Try.func39, Try.ntmps39
  go_wp2_with fail
  go_ret3
  exact ⟨rfl, rfl⟩
set_option maxHeartbeats 1000000 in
theorem rftake_far (A : Option Addr) (c a : Nat) (bs : List UInt8) (w : World) (hb : Bytes w w.heap.size A bs) (hl : bs.length ≤ maxLen) (ha : a + 8 ≤ bs.length) (h : 4096 < long bs a ∨ bs.length < a + 8 + long bs a) :
    Calls Try.prog 39 #[.slice A bs.length c, .int .i64 (a : Int)] w fun e w' => e = .returned (.tuple #[.slice none 0 0, .int .i64 0, .int .i64 5]) ∧ w = w' := by
  have hln := long_lt bs a
  have hl' := hl
  unfold maxLen at hl'
  have h1 : ¬ (a : Int) < 0 := by omega
  have h2 : ¬ (bs.length : Int) < (a : Int) := by omega
  have h3 : ¬ (bs.length : Int) - (a : Int) < 8 := by omega
  have t1 := rtake4_n A bs.length c bs a w hb rfl hl (by omega)
  generalize long bs a = L at h hln t1
  have T1 := Lib.hid t1
  clear t1
  by_cases h0 : 4096 < L
  case' pos => have h' : (4096 : Int) < (L : Int) := by omega
  case' neg =>
    have h' : ¬ (4096 : Int) < (L : Int) := by omega
    have h'' : (bs.length : Int) - (a : Int) - 8 < (L : Int) := by omega
  all_goals
    go_enter Try.func39, Try.ntmps39
    go_wp2_with fail
    refine T1.out.mono ?_
    rintro e w1 ⟨rfl, rfl⟩
    go_wp2_with fail
    go_ret3
    exact ⟨rfl, rfl⟩
set_option maxHeartbeats 2000000 in
theorem rftake_sum (A : Option Addr) (c a L : Nat) (bs s : List UInt8) (w : World) (hb : Bytes w w.heap.size A bs) (hc : bs.length ≤ c) (hl : bs.length ≤ maxLen) (hcm : c ≤ maxLen) (ha : a + 8 + L ≤ bs.length) (hL : L ≤ 4096)
    (HN : Hid (long bs a = L)) (HR : Hid (recAt bs a = s)) :
    Calls Try.prog 39 #[.slice A bs.length c, .int .i64 (a : Int)] w fun e w' =>
      (fr s = (bs.drop a).take (8 + L) ∧ ∃ A' n' c', e = .returned (.tuple #[.slice A' n' c', .int .i64 ((a + 8 + L : Nat) : Int), .int .i64 0]) ∧ n' = s.length ∧ OwnB w' w.heap.size 5 (.slice A' n' c') s ∧ Below w.heap.size w w') ∨
      (¬ fr s = (bs.drop a).take (8 + L) ∧ e = .returned (.tuple #[.slice none 0 0, .int .i64 0, .int .i64 5]) ∧ Below w.heap.size w w') := by
  have hl' := hl
  unfold maxLen at hl' hcm
  have t1 := rtake4_n A bs.length c bs a w hb rfl hl (by omega)
  rw [HN.out] at t1
  have T1 := Lib.hid t1
  clear t1
  obtain ⟨b, off, rfl, hB, _⟩ := hb.at_ (k := 0) (by omega)
  have hsl : s.length = L := by rw [← HR.out, ← HN.out]; exact recAt_len bs a (by rw [HN.out]; omega)
  have b1 : Bytes w w.heap.size (some ⟨b, off + a, none⟩) ((bs.drop a).take (8 + L)) := cut_bytes hb a (8 + L) (by omega)
  have b2 : Bytes w w.heap.size (some ⟨b, off + (a + 8), none⟩) s := by
    have := cut_bytes hb (a + 8) L (by omega)
    rw [show (bs.drop (a + 8)).take L = s from by rw [← HR.out, ← HN.out]; rfl] at this; exact this
  have hul : ((bs.drop a).take (8 + L)).length = 8 + L := by rw [List.length_take, List.length_drop]; omega
  generalize (bs.drop a).take (8 + L) = u at b1 hul ⊢
  have hadd1 : (⟨b, off, none⟩ : Addr).add a = ⟨b, off + a, none⟩ := by unfold Addr.add; split <;> simp_all
  have hadd2 : (⟨b, off, none⟩ : Addr).add (a + 8) = ⟨b, off + (a + 8), none⟩ := by unfold Addr.add; split <;> simp_all
  have SL := Lib.hid hsl
  have UL := Lib.hid hul
  have B1 := Lib.hid b1
  have B2 := Lib.hid b2
  clear hsl hul b1 b2
  have h1 : ¬ (a : Int) < 0 := by omega
  have h2 : ¬ (bs.length : Int) < (a : Int) := by omega
  have h3 : ¬ (bs.length : Int) - (a : Int) < 8 := by omega
  have h4 : ¬ (4096 : Int) < (L : Int) := by omega
  have h5 : ¬ (bs.length : Int) - (a : Int) - 8 < (L : Int) := by omega
  have P0 : Hid (([] : List UInt8) ++ s = s) := rfl
  by_cases hcap : c = a + 8
  · have hL0 : L = 0 := by omega
    have hs0 : s = [] := List.eq_nil_of_length_eq_zero (by rw [SL.out]; exact hL0)
    subst hL0 hcap
    clear hadd2 hs0
    go_enter Try.func39, Try.ntmps39
    go_wp2_with fail
    refine T1.out.mono ?_
    rintro e w1 ⟨rfl, rfl⟩
    go_wp2_with (at_builtin; refine wpList_ap2 rfl _ _ rfl rfl w.heap.size (.slice (some ⟨w.heap.size, 0, none⟩) 0 0) [] s s w.heap.size _ _ _ rfl rfl (by have := SL.out; omega) P0.out (OwnB.made w _ 5 (Nat.le_refl _)) (Reads.alloc (by rw [show s = [] from List.eq_nil_of_length_eq_zero SL.out]; exact no_bytes _ _ _) (Nat.le_refl _) _) (by have := SL.out; simp; omega) w ((Below.refl w.heap.size w).alloc (Nat.le_refl _) _) (by simp) ?_; intro A3 c3 n3 W3 e3 h3 hB3 hl3 hbel3 hs3 hg3; clear hg3 hl3)
    have hB1 := Reads.more (Reads.below B1.out hbel3) hs3
    have hBd : Bytes W3.drew W3.drew.heap.size (some ⟨b, off + a, none⟩) u := Reads.drew hB1
    have q0 : ∀ cc, (convert 22 9 (.slice (some ⟨b, off + a, none⟩) 8 cc)).run Try.prog W3.drew = .ok (.string (strB u)) W3.drew := fun cc => str_n W3.drew _ _ _ cc _ (Reads.drew hB1) (by have := UL.out; omega)
    have hfr := rframe_any A3 n3 c3 s W3.drew hB3 e3.out (by have := SL.out; omega)
    have FRC := Lib.hid hfr
    clear hfr
    by_cases hEq : fr s = u
    · subst hEq
      generalize hX : strB (fr s) = X at q0
      have HX := Lib.hid hX
      clear hX
      go_region_held (fun _ => True) (trivial) (first | (go_at_call 54; refine FRC.out.mono ?_; rintro e W4 ⟨A4, n4, c4, rfl, hn4, hown4, hb4⟩; have q1 := str_n W4 _ A4 n4 c4 _ (own_open hown4).1 hn4; rw [HX.out] at q1; clear hn4 hown4; have q2 : ∀ cc, (convert 22 9 (.slice (some ⟨b, off + a, none⟩) 8 cc)).run Try.prog W4 = .ok (.string X) W4 := fun cc => by rw [← HX.out]; exact str_n W4 _ _ _ cc _ (Reads.more (Reads.below hBd hb4) hb4.size) (by have := UL.out; omega)))
      all_goals go_wp2_with fail
      all_goals go_ret3
      all_goals exact ⟨A3, n3, c3, congrArg (fun z => Ending.returned (.tuple #[.slice A3 n3 c3, .int .i64 z, .int .i64 0])) (by omega), e3.out, own_after h3 hb4, below_after hbel3 hs3 hb4⟩
    · have hne0 := strB_ne hEq
      have hne1 : ((strB (fr s)).toList == (strB u).toList) = false := by rw [strB_toList, strB_toList]; simpa using hEq
      have hne2 : ((strB (fr s)).toList != (strB u).toList) = true := by rw [bne, hne1]; rfl
      generalize hX : strB (fr s) = X at hne0 hne1 hne2
      generalize hY : strB u = Y at q0 hne0 hne1 hne2
      have HX := Lib.hid hX
      have HY := Lib.hid hY
      clear hX hY
      go_region_held (fun _ => True) (trivial) (first | (go_at_call 54; refine FRC.out.mono ?_; rintro e W4 ⟨A4, n4, c4, rfl, hn4, hown4, hb4⟩; have q1 := str_n W4 _ A4 n4 c4 _ (own_open hown4).1 hn4; rw [HX.out] at q1; clear hn4 hown4; have q2 : ∀ cc, (convert 22 9 (.slice (some ⟨b, off + a, none⟩) 8 cc)).run Try.prog W4 = .ok (.string Y) W4 := fun cc => by rw [← HY.out]; exact str_n W4 _ _ _ cc _ (Reads.more (Reads.below hBd hb4) hb4.size) (by have := UL.out; omega)))
      all_goals go_wp2_with fail
      all_goals go_ret3
      all_goals exact .inr ⟨hEq, rfl, hbel3.trans (((Below.refl w.heap.size W3).drew).trans (hb4.mono hs3))⟩
  · go_enter Try.func39, Try.ntmps39
    go_wp2_with fail
    refine T1.out.mono ?_
    rintro e w1 ⟨rfl, rfl⟩
    go_wp2_with (at_builtin; refine wpList_ap2 rfl _ _ rfl rfl w.heap.size (.slice (some ⟨w.heap.size, 0, none⟩) 0 0) [] s s w.heap.size _ _ _ rfl rfl (by have := SL.out; omega) P0.out (OwnB.made w _ 5 (Nat.le_refl _)) (Reads.alloc (by exact B2.out) (Nat.le_refl _) _) (by have := SL.out; simp; omega) w ((Below.refl w.heap.size w).alloc (Nat.le_refl _) _) (by simp) ?_; intro A3 c3 n3 W3 e3 h3 hB3 hl3 hbel3 hs3 hg3; clear hg3 hl3)
    have hB1 := Reads.more (Reads.below B1.out hbel3) hs3
    have hBd : Bytes W3.drew W3.drew.heap.size (some ⟨b, off + a, none⟩) u := Reads.drew hB1
    have q0 : ∀ cc, (convert 22 9 (.slice (some ⟨b, off + a, none⟩) (a + 8 + L - a) cc)).run Try.prog W3.drew = .ok (.string (strB u)) W3.drew := fun cc => str_n W3.drew _ _ _ cc _ (Reads.drew hB1) (by have := UL.out; omega)
    have hfr := rframe_any A3 n3 c3 s W3.drew hB3 e3.out (by have := SL.out; omega)
    have FRC := Lib.hid hfr
    clear hfr
    by_cases hEq : fr s = u
    · subst hEq
      generalize hX : strB (fr s) = X at q0
      have HX := Lib.hid hX
      clear hX
      go_region_held (fun _ => True) (trivial) (first | (go_at_call 54; refine FRC.out.mono ?_; rintro e W4 ⟨A4, n4, c4, rfl, hn4, hown4, hb4⟩; have q1 := str_n W4 _ A4 n4 c4 _ (own_open hown4).1 hn4; rw [HX.out] at q1; clear hn4 hown4; have q2 : ∀ cc, (convert 22 9 (.slice (some ⟨b, off + a, none⟩) (a + 8 + L - a) cc)).run Try.prog W4 = .ok (.string X) W4 := fun cc => by rw [← HX.out]; exact str_n W4 _ _ _ cc _ (Reads.more (Reads.below hBd hb4) hb4.size) (by have := UL.out; omega)))
      all_goals go_wp2_with fail
      all_goals go_ret3
      all_goals exact ⟨A3, n3, c3, congrArg (fun z => Ending.returned (.tuple #[.slice A3 n3 c3, .int .i64 z, .int .i64 0])) (by omega), e3.out, own_after h3 hb4, below_after hbel3 hs3 hb4⟩
    · have hne0 := strB_ne hEq
      have hne1 : ((strB (fr s)).toList == (strB u).toList) = false := by rw [strB_toList, strB_toList]; simpa using hEq
      have hne2 : ((strB (fr s)).toList != (strB u).toList) = true := by rw [bne, hne1]; rfl
      generalize hX : strB (fr s) = X at hne0 hne1 hne2
      generalize hY : strB u = Y at q0 hne0 hne1 hne2
      have HX := Lib.hid hX
      have HY := Lib.hid hY
      clear hX hY
      go_region_held (fun _ => True) (trivial) (first | (go_at_call 54; refine FRC.out.mono ?_; rintro e W4 ⟨A4, n4, c4, rfl, hn4, hown4, hb4⟩; have q1 := str_n W4 _ A4 n4 c4 _ (own_open hown4).1 hn4; rw [HX.out] at q1; clear hn4 hown4; have q2 : ∀ cc, (convert 22 9 (.slice (some ⟨b, off + a, none⟩) (a + 8 + L - a) cc)).run Try.prog W4 = .ok (.string Y) W4 := fun cc => by rw [← HY.out]; exact str_n W4 _ _ _ cc _ (Reads.more (Reads.below hBd hb4) hb4.size) (by have := UL.out; omega)))
      all_goals go_wp2_with fail
      all_goals go_ret3
      all_goals exact .inr ⟨hEq, rfl, hbel3.trans (((Below.refl w.heap.size W3).drew).trans (hb4.mono hs3))⟩
end Go.Proofs.Ytnnhkanjneecjaa
