import Derived.Test.YtnnhkanjneecjaaOctF
namespace Go.Proofs.Ytnnhkanjneecjaa
open Go.RowKit
/-- a slice of slices of the call's own making. -/
theorem strs_two (w : World) (B : Nat) (b : Nat) (s t : List UInt8) (A1 A2 : Option Addr) (c1 c2 : Nat) (hB : b < B) (h0 : w.cell? ⟨b, 0, none⟩ = some (.slice A1 s.length c1)) (h1 : w.cell? ⟨b, 1, none⟩ = some (.slice A2 t.length c2))
    (x1 : Bytes w B A1 s) (x2 : Bytes w B A2 t) (l1 : s.length ≤ c1) (l2 : t.length ≤ c2) (m1 : c1 ≤ maxLen) (m2 : c2 ≤ maxLen) : Strs w B (some ⟨b, 0, none⟩) [s, t] := by
  refine ⟨fun i => if i = 0 then A1 else A2, fun i => if i = 0 then c1 else c2, fun _ => ⟨b, 0, rfl, hB, fun i bs hi => ?_⟩, fun i bs hi => ?_⟩
  · match i, hi with
    | 0, hi => injection hi with hi; subst hi; simpa using h0
    | 1, hi => injection hi with hi; subst hi; simpa using h1
    | i + 2, hi => cases hi
  · match i, hi with
    | 0, hi => injection hi with hi; subst hi; exact ⟨x1, l1, m1⟩
    | 1, hi => injection hi with hi; subst hi; exact ⟨x2, l2, m2⟩
    | i + 2, hi => cases hi
theorem own_open {w : World} {base : Nat} {e : TypeId} {A : Option Addr} {n c : Nat} {bs : List UInt8} (h : OwnB w base e (.slice A n c) bs) : Bytes w w.heap.size A bs ∧ n ≤ c ∧ c ≤ maxLen ∧ n = bs.length := by
  obtain ⟨A', c', hv, hB, hl⟩ := h.open_
  injection hv with h1 h2 h3
  subst h1 h2 h3
  refine ⟨hB, ?_, ?_, rfl⟩
  · rcases h.2 with ⟨hv, hn⟩ | ⟨g, cap, cur, hv, _, _, hc, hm, _⟩
    · omega
    · injection hv with _ _ h3; omega
  · rcases h.2 with ⟨hv, hn⟩ | ⟨g, cap, cur, hv, _, _, hc, hm, _⟩
    · injection hv with _ _ h3; subst h3; decide
    · injection hv with _ _ h3; omega
theorem str_n (w : World) (B : Nat) (A : Option Addr) (n c : Nat) (bs : List UInt8) (hr : Bytes w B A bs) (hn : n = bs.length) : (convert 22 9 (.slice A n c)).run Try.prog w = .ok (.string (strB bs)) w := by
  subst hn; exact str_any w B A c bs hr
def o1 : List UInt8 := [0, 0, 0, 2, 97, 98]
def o2 : List UInt8 := [0, 0, 0, 1, 97, 0, 0, 0, 0]
set_option maxHeartbeats 2000000 in
theorem oworks_any (w : World) :
    Calls Try.prog 11 #[] w fun e w' => e = .returned (.bool true) ∧ Below w.heap.size w w' := by
  have kc := fun (w : World) (C : Array Value) (n c : Nat) => Lib.run_convert_bytes_const (P := Try.prog) w 22 5 C n c Try.underlying22 Try.underlying5
  go_enter Try.func11, Try.ntmps11
  go_wp2_with fail
  refine (put_ok 2 (.inr (.inl rfl)) none 0 0 [] 258 _ (no_bytes _ _ _) rfl (by simp) (by decide) (by omega)).mono ?_
  rintro e w1 ⟨A1, n1, c1, rfl, hn1, hown1, hb1⟩
  have N1 := Lib.hid hn1
  clear hn1
  have hs1 := hb1.size
  go_wp2_with fail
  refine (put_many 1 (.inl rfl) _ 258 _ (by decide)).mono ?_
  rintro e w2 ⟨rfl, rfl⟩
  go_wp2_with fail
  refine (put_arg 3 (by decide) (by decide) (by decide) (by decide) _ 1 _).mono ?_
  rintro e w2 ⟨rfl, rfl⟩
  go_wp2_with fail
  rw [show (258 : Int) = ((258 : Nat) : Int) from rfl] at *
  refine (take_ok 2 (.inr (.inl rfl)) (some ⟨w1.heap.size, 0, none⟩) 2 2 [1, 2] 0 _ (bytes_const w1 [1, 2] 5 (0, 0)) rfl (by omega) (by decide) (by decide)).mono ?_
  rintro e w2 ⟨rfl, rfl⟩
  rw [show ((vl (([1, 2] : List UInt8).drop 0 |>.take 2) : Nat) : Int) = 258 from rfl]
  have hb2 := hb1.alloc hs1 (.cells (bv [1, 2]).toArray 5)
  have x1 := own_below hown1 ((Below.refl w1.heap.size w1).alloc (Nat.le_refl _) (.cells (bv [1, 2]).toArray 5))
  clear hb1 hs1 hown1
  generalize w1.alloc (.cells (bv [1, 2]).toArray 5) = W2 at hb2 x1 ⊢
  have hs2 := hb2.size
  go_wp2_with fail
  refine (putString_ok none (some ⟨W2.heap.size, 0, none⟩) 0 0 2 2 [] [97, 98] _ (no_bytes _ _ _) rfl (bytes_const W2 [97, 98] 5 (2, 3)) rfl (by simp) (by simp)).mono ?_
  rintro e w3 ⟨A3, n3, c3, rfl, hn3, hown3, hb3⟩
  have N3 := Lib.hid hn3
  clear hn3
  have x1' := own_below (own_below x1 ((Below.refl W2.heap.size W2).alloc (Nat.le_refl _) (.cells (bv [97, 98]).toArray 5 (2, 3)))) hb3
  have hb4 := (hb2.alloc hs2 (.cells (bv [97, 98]).toArray 5 (2, 3))).trans (hb3.mono (by simp; omega))
  clear x1 hb2 hb3
  have hs4 := hb4.size
  have x3 : OwnB w3 (W2.alloc (.cells (bv [97, 98]).toArray 5 (2, 3))).heap.size 5 (.slice A3 n3 c3) o1 := hown3
  generalize (W2.alloc (.cells (bv [97, 98]).toArray 5 (2, 3))).heap.size = base3 at x3
  clear hown3
  obtain ⟨y1, y2, y3, y4⟩ := own_open x3
  have Y4 := Lib.hid y4
  clear y4
  go_wp2_with fail
  refine (takeString_ok A3 n3 c3 o1 0 2 _ y1 Y4.out y2 (by decide) y3 (by decide) (by decide) (by decide)).mono ?_
  rintro e w5 ⟨A5, n5, c5, rfl, hn5, hown5, hb5⟩
  have N5 := Lib.hid hn5
  clear hn5
  rw [show ((0 + 4 + long o1 0 : Nat) : Int) = 6 from rfl]
  have x5 : OwnB w5 w3.heap.size 5 (.slice A5 n5 c5) [97, 98] := hown5
  have x1 := own_below x1' hb5
  have x3' := own_below x3 hb5
  have hb6 := hb4.trans (hb5.mono hs4)
  clear x1' x3 y1 hown5
  have y1 := (own_open x3').1
  have hs6 := hb6.size
  go_wp2_with fail
  refine (takeString_many A3 n3 c3 o1 0 1 _ y1 Y4.out y2 (by decide) (by decide) (by decide) (by decide)).mono ?_
  rintro e w6 ⟨rfl, rfl⟩
  have z0 := bytes_const w5 [97] 5 (1, 2)
  have hb7 := hb6.alloc hs6 (.cells (bv [97]).toArray 5 (1, 2))
  have x1b := own_below x1 ((Below.refl w5.heap.size w5).alloc (Nat.le_refl _) (.cells (bv [97]).toArray 5 (1, 2)))
  have x3b := own_below x3' ((Below.refl w5.heap.size w5).alloc (Nat.le_refl _) (.cells (bv [97]).toArray 5 (1, 2)))
  have x5b := own_below x5 ((Below.refl w5.heap.size w5).alloc (Nat.le_refl _) (.cells (bv [97]).toArray 5 (1, 2)))
  clear x1 x3' x5 hb4 hb5 y1
  have hst : Strs ((w5.alloc (.cells (bv [97]).toArray 5 (1, 2))).alloc (.cells #[.slice (some ⟨w5.heap.size, 0, none⟩) 1 1, .slice none 0 0] 22))
      ((w5.alloc (.cells (bv [97]).toArray 5 (1, 2))).alloc (.cells #[.slice (some ⟨w5.heap.size, 0, none⟩) 1 1, .slice none 0 0] 22)).heap.size (some ⟨w5.heap.size + 1, 0, none⟩) [[97], []] := by
    refine strs_two _ _ _ [97] [] (some ⟨w5.heap.size, 0, none⟩) none 1 0 (by simp) ?_ ?_ ((Reads.alloc z0 (Nat.le_refl _) _).more (by simp)) (no_bytes _ _ _) (by decide) (by decide) (by decide) (by decide)
    · simp
    · simp
  have hbb := (Below.refl (w5.alloc (.cells (bv [97]).toArray 5 (1, 2))).heap.size (w5.alloc (.cells (bv [97]).toArray 5 (1, 2)))).alloc (Nat.le_refl _) (.cells #[.slice (some ⟨w5.heap.size, 0, none⟩) 1 1, .slice none 0 0] 22)
  have x1 := own_below x1b hbb
  have x3 := own_below x3b hbb
  have x5 := own_below x5b hbb
  have hb8 := hb7.trans (hbb.mono (by simp; omega))
  clear x1b x3b x5b hbb z0 hb7 hb6 hs6
  go_wp2_with fail
  refine (strings_ok (some ⟨w5.heap.size + 1, 0, none⟩) 2 2 [[97], []] ((w5.alloc (.cells (bv [97]).toArray 5 (1, 2))).alloc (.cells #[.slice (some ⟨w5.heap.size, 0, none⟩) 1 1, .slice none 0 0] 22)) hst rfl (by decide) (by intro s hs; simp at hs; rcases hs with rfl | rfl <;> simp) (by decide)).mono ?_
  rintro e w9 ⟨A9, n9, c9, rfl, hn9, hown9, hb9⟩
  have hs8 := hb8.size
  have x1' := (own_open (own_below x1 hb9)).1
  have x3' := (own_open (own_below x3 hb9)).1
  have x5' := (own_open (own_below x5 hb9)).1
  have x9' := (own_open hown9).1
  have hbz := hb8.trans (hb9.mono hs8)
  have q1 : (convert 22 9 (.slice A1 n1 c1)).run Try.prog w9 = .ok (.string { data := #[1, 2] }) w9 := str_n _ _ _ _ _ _ x1' N1.out
  have q3 : (convert 22 9 (.slice A3 n3 c3)).run Try.prog w9 = .ok (.string { data := #[0, 0, 0, 2, 97, 98] }) w9 := str_n _ _ _ _ _ _ x3' Y4.out
  have q5 : (convert 22 9 (.slice A5 n5 c5)).run Try.prog w9 = .ok (.string { data := #[97, 98] }) w9 := str_n _ _ _ _ _ _ x5' N5.out
  have q9 : (convert 22 9 (.slice A9 n9 c9)).run Try.prog w9 = .ok (.string { data := #[0, 0, 0, 1, 97, 0, 0, 0, 0] }) w9 := str_n _ _ _ _ _ _ x9' hn9
  clear hn9 hown9 x1 x3 x5 x1' x3' x5' x9' hst hb9 hb8 hs8 kc
  go_wp2_with fail
  go_ret
  exact ⟨rfl, hbz⟩
end Go.Proofs.Ytnnhkanjneecjaa
