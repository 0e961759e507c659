import Derived.Test.YtnnhkanjneecjaaFrD
namespace Go.Proofs.Ytnnhkanjneecjaa
open Go.RowKit
/-! the chapter's examples. -/
def F1 : List UInt8 := [0, 0, 0, 1, 229, 140, 151, 146, 97]
theorem F1_eq : encF [[97]] = F1 := by decide +kernel
def F1b : List UInt8 := [0, 0, 0, 1, 229, 140, 151, 146, 97, 0, 0, 0, 1, 229, 140, 151, 146, 97]
def F2 : List UInt8 := [0, 0, 0, 1, 229, 140, 151, 146, 97, 0, 0, 0, 1, 229, 140, 151, 146, 96]
theorem F2_all : falR F2 = ([[97]], 9) := by decide +kernel
theorem F1_cut : falR [0, 0, 0, 1, 229, 140, 151, 146] = ([], 0) := by decide +kernel
theorem strs_one (w : World) (B : Nat) (b : Nat) (s : List UInt8) (A1 : Option Addr) (c1 : Nat) (hB : b < B) (h0 : w.cell? ⟨b, 0, none⟩ = some (.slice A1 s.length c1))
    (x1 : Bytes w B A1 s) (l1 : s.length ≤ c1) (m1 : c1 ≤ maxLen) : Strs w B (some ⟨b, 0, none⟩) [s] := by
  refine ⟨fun _ => A1, fun _ => c1, fun _ => ⟨b, 0, rfl, hB, fun i bs hi => ?_⟩, fun i bs hi => ?_⟩
  · match i, hi with
    | 0, hi => injection hi with hi; subst hi; simpa using h0
    | i + 1, hi => cases hi
  · match i, hi with
    | 0, hi => injection hi with hi; subst hi; exact ⟨x1, l1, m1⟩
    | i + 1, hi => cases hi
theorem bytes_take {w : World} {B : Nat} {A : Option Addr} {bs : List UInt8} (h : Bytes w B A bs) (k : Nat) (hk : k ≤ bs.length) : Bytes w B A (bs.take k) := by
  have hl : (bs.take k).length = k := by rw [List.length_take]; omega
  refine ⟨by rw [bv_len, Nat.mul_one], fun h0 => ?_⟩
  obtain ⟨ad, hA, hB, hc⟩ := h.2 (by omega)
  refine ⟨ad, hA, hB, fun j u hu => hc j u ?_⟩
  have hj : j < k := by
    rcases Nat.lt_or_ge j k with h' | h'
    · exact h'
    · rw [List.getElem?_eq_none (by rw [bv_len]; omega)] at hu; cases hu
  rw [bv_at _ j (by omega)] at hu
  rw [bv_at _ j (by omega), ← hu]
  simp
set_option maxHeartbeats 2000000 in
theorem fworks_any (w : World) :
    Calls Try.prog 35 #[] w fun e w' => e = .returned (.bool true) ∧ Below w.heap.size w w' := by
  have kc := fun (w : World) (C : Array Value) (n c : Nat) => Lib.run_convert_bytes_const (P := Try.prog) w 22 5 C n c Try.underlying22 Try.underlying5
  go_enter Try.func35, Try.ntmps35
  go_wp2_with fail
  have z0 := bytes_const w [97] 5 (1, 2)
  have hbA := (Below.refl w.heap.size w).alloc (Nat.le_refl _) (.cells (bv [97]).toArray 5 (1, 2))
  have hst : Strs ((w.alloc (.cells (bv [97]).toArray 5 (1, 2))).alloc (.cells #[.slice (some ⟨w.heap.size, 0, none⟩) 1 1] 22))
      ((w.alloc (.cells (bv [97]).toArray 5 (1, 2))).alloc (.cells #[.slice (some ⟨w.heap.size, 0, none⟩) 1 1] 22)).heap.size (some ⟨w.heap.size + 1, 0, none⟩) [[97]] := by
    refine strs_one _ _ _ [97] (some ⟨w.heap.size, 0, none⟩) 1 (by simp) (by simp) ((Reads.alloc z0 (Nat.le_refl _) _).more (by simp)) (by decide) (by decide)
  have hbB := hbA.alloc (by simp) (.cells #[.slice (some ⟨w.heap.size, 0, none⟩) 1 1] 22)
  clear z0 hbA
  refine (fput_any none (some ⟨w.heap.size + 1, 0, none⟩) 0 0 1 1 [] [[97]] ((w.alloc (.cells (bv [97]).toArray 5 (1, 2))).alloc (.cells #[.slice (some ⟨w.heap.size, 0, none⟩) 1 1] 22)) (no_bytes _ _ _) rfl hst rfl (by decide +kernel) (by decide)).mono ?_
  rintro e w2 ⟨A2, n2, c2, rfl, hn2, hown2, hb2⟩
  rw [show putFB [] [[97]] = F1 by decide +kernel] at hn2 hown2
  rw [show putFE [[97]] = 0 from rfl]
  have hb2' := hbB.trans (hb2.mono hbB.size)
  have hs2 := hb2'.size
  have hbase : w.heap.size ≤ ((w.alloc (.cells (bv [97]).toArray 5 (1, 2))).alloc (.cells #[.slice (some ⟨w.heap.size, 0, none⟩) 1 1] 22)).heap.size := by simp; omega
  have hown2' := own_less hown2 hbase
  clear hown2 hb2 hbB hst hbase
  obtain ⟨g, rfl, hg1, hg2, hrow⟩ := hown2'.rowO (by decide)
  have hn9 : n2 = 9 := hn2
  subst hn9
  clear hn2
  have x2 := (own_open hown2').1
  have hc2 := (own_open hown2').2.1
  have hm2 := (own_open hown2').2.2.1
  have p1 : ([] : List UInt8) ++ F1 = F1 := rfl
  have P1 := Lib.hid p1
  have P2 : Hid (F1 ++ F1 = F1b) := rfl
  clear p1
  go_wp2_with (first
    | (at_builtin; refine wpList_ap2 rfl _ _ rfl rfl w2.heap.size (.slice (some ⟨w2.heap.size, 0, none⟩) 0 0) [] F1 F1 w2.heap.size (some ⟨g, 0, none⟩) 9 c2 rfl rfl rfl P1.out (OwnB.made w2 _ 5 (Nat.le_refl _)) (Reads.alloc x2 (Nat.le_refl _) _) (by decide) w2 ((Below.refl _ _).alloc (Nat.le_refl _) _) (by simp) ?_; intro A3 c3 n3 w3 e3 h3 hB3 hl3 hbel3 hs3 hg3; clear hB3 hl3 hg3)
    | (at_builtin; refine wpList_ap2 rfl _ _ rfl rfl w2.heap.size (.slice A3 n3 c3) F1 F1 F1b w3.heap.size (some ⟨g, 0, none⟩) 9 c2 rfl rfl rfl P2.out h3 (Reads.more (Reads.below x2 hbel3) hs3) (by decide) w2 hbel3 hs3 ?_; intro A4 c4 n4 w4 e4 h4 hB4 hl4 hbel4 hs4 hg4; clear hB4 hl4 hg4 h3 hbel3 hs3 e3; obtain ⟨g4, hA4, hg41, hg42, hrow4⟩ := h4.rowO (by decide); subst hA4; have hn18 : n4 = 18 := e4.out; subst hn18; have cc : w4.cell? ⟨g4, 17, none⟩ = some (.int .u8 97) := hrow4.cell (k := 17) (by decide); have cf := hrow4.frozen 17; have cm : 18 ≤ c4 := (own_open h4).2.1))
  have hr5 : Row (w4.setCell ⟨g4, 17, none⟩ (.int .u8 (bits .xor .u8 97 1))) g4 5 F2 := hrow4.set_ (k := 17) (by decide) 96 _ (congrArg (Value.int .u8) (by decide +kernel))
  have hb5 : Below w2.heap.size w2 (w4.setCell ⟨g4, 17, none⟩ (.int .u8 (bits .xor .u8 97 1))) := hbel4.setCell hg41 _
  generalize w4.setCell ⟨g4, 17, none⟩ (.int .u8 (bits .xor .u8 97 1)) = W5 at hr5 hb5 ⊢
  have hs5 := hb5.size
  have x5 := Reads.more (Reads.below x2 hb5) hs5
  have x58 : Bytes W5 W5.heap.size (some ⟨g, 0, none⟩) [0, 0, 0, 1, 229, 140, 151, 146] := bytes_take x5 8 (by decide)
  have x54 : Bytes W5 W5.heap.size (some ⟨g, 0, none⟩) [0, 0, 0, 1] := bytes_take x5 4 (by decide)
  have hW5 := hb2'.trans (hb5.mono hs2)
  have hsW5 := hW5.size
  have hg5 := hr5.lt
  clear cc cf hrow4 h4 hbel4 e4 hb5
  refine (fall_any (some ⟨g, 0, none⟩) 8 c2 [0, 0, 0, 1, 229, 140, 151, 146] W5 x58 rfl (by decide)).mono ?_
  rintro e W6 ⟨A6, n6, c6, rfl, hn6, hown6, hb6⟩
  rw [F1_cut] at hn6 hown6 ⊢
  have hn60 : n6 = 0 := hn6
  subst hn60
  clear hn6 hown6
  have hr6 := hr5.below hb6 hg5
  have hW6 := hW5.trans (hb6.mono hsW5)
  have hsW6 := hW6.size
  have hg6 := hr6.lt
  have x6 := Reads.more (Reads.below x5 hb6) hb6.size
  have x64 := Reads.more (Reads.below x54 hb6) hb6.size
  have r6 := hr6.bytes
  clear x58 x5 x54 hb6
  go_wp2_with fail
  refine (fall_any (some ⟨g4, 0, none⟩) 18 c4 F2 W6 r6 rfl (by decide)).mono ?_
  rintro e W7 ⟨A7, n7, c7, rfl, hn7, hown7, hb7⟩
  rw [F2_all] at hn7 hown7 ⊢
  have hn71 : n7 = 1 := hn7
  subst hn71
  clear hn7
  have hW7 := hW6.trans (hb7.mono hsW6)
  have x7 := Reads.more (Reads.below x6 hb7) hb7.size
  have x74 := Reads.more (Reads.below x64 hb7) hb7.size
  have hstr := hown7.strs.1
  have hc7 := hown7.strs.2.2.1
  obtain ⟨b7, off7, Ai7, ci7, rfl, hlt7, hcell7, hby7, hle7, hmx7⟩ := hstr.at_ (i := 0) (by decide)
  have hcell7' : W7.cell? ⟨b7, off7, none⟩ = some (.slice Ai7 1 ci7) := hcell7
  have q1 : (convert 22 9 (.slice Ai7 1 ci7)).run Try.prog W7 = .ok (.string { data := #[97] }) W7 := str_n _ _ _ _ _ [97] hby7 rfl
  have q2 : (convert 22 9 (.slice (some ⟨g, 0, none⟩) 4 c2)).run Try.prog W7 = .ok (.string { data := #[0, 0, 0, 1] }) W7 := str_n _ _ _ _ _ [0, 0, 0, 1] x74 rfl
  obtain ⟨b8, off8, hA8, hB8, hc8⟩ := Bytes.at_ (bs := F1) x7 (k := 8) (by decide)
  cases hA8
  have hc8' : W7.cell? ⟨g, 8, none⟩ = some (.int .u8 97) := by have := hc8; rw [Nat.zero_add] at this; exact this
  clear x6 x64 x7 x74 hc8 hcell7 hstr hown7 hb7 hr5 hr6 r6 kc
  go_wp2_with fail
  go_ret
  exact ⟨rfl, hW7⟩
end Go.Proofs.Ytnnhkanjneecjaa
