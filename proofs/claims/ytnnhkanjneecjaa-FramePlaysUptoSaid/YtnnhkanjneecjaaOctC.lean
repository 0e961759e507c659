import Derived.Test.YtnnhkanjneecjaaOctB
namespace Go.Proofs.Ytnnhkanjneecjaa
open Go.RowKit
theorem behind_any (k : Nat) (hk : Size k) (A : Option Addr) (m c : Nat) (bs : List UInt8) (n base : Nat) (w : World) (h0 : OwnB w base 5 (.slice A m c) bs) (hb : base ≤ w.heap.size) (hl : bs.length ≤ 140737488355000) (hn : n ≤ 18446744073709551615) :
    Calls Try.prog 46 #[.slice A m c, .int .u64 (n : Int), .int .i64 (k : Int)] w fun e w' => ∃ A' m' c', e = .returned (.slice A' m' c') ∧ OwnB w' base 5 (.slice A' m' c') (bs ++ be k n) ∧ m' = (bs ++ be k n).length ∧ Below base w w' ∧ base ≤ w'.heap.size := by
  rcases hk with rfl | rfl | rfl | rfl
  · exact behind1 A m c bs n base w h0 hb hl hn
  · exact behind2 A m c bs n base w h0 hb hl hn
  · exact behind4 A m c bs n base w h0 hb hl hn
  · exact behind8 A m c bs n base w h0 hb hl hn
/-- what a call hands back: bytes of its own. -/
def Made (w : World) (bs : List UInt8) (v : Value) (w' : World) : Prop := ∃ A n c, v = .slice A n c ∧ n = bs.length ∧ OwnB w' w.heap.size 5 (.slice A n c) bs ∧ Bytes w' w'.heap.size A bs ∧ Below w.heap.size w w'
set_option maxHeartbeats 1000000 in
theorem put_ok (k : Nat) (hk : Size k) (A : Option Addr) (m c : Nat) (bs : List UInt8) (n : Nat) (w : World) (hb : Bytes w w.heap.size A bs) (hm : m = bs.length) (hl : bs.length ≤ 1099511627776) (hn : n ≤ top k) (hn2 : n ≤ 18446744073709551615) :
    Calls Try.prog 13 #[.slice A m c, .int .u64 (n : Int), .int .i64 (k : Int)] w fun e w' => ∃ A' m' c', e = .returned (.tuple #[.slice A' m' c', .int .i64 0]) ∧ m' = (bs ++ be k n).length ∧ OwnB w' w.heap.size 5 (.slice A' m' c') (bs ++ be k n) ∧ Below w.heap.size w w' := by
  have hk8 : k ≤ 8 := by rcases hk with rfl | rfl | rfl | rfl <;> omega
  have ht : ¬ ((top k : Nat) : Int) < (n : Int) := by omega
  subst hm
  go_enter Try.func13, Try.ntmps13
  go_wp2_with fail
  refine (greatest_yes k hk _).mono ?_
  rintro e w1 ⟨rfl, rfl⟩
  go_wp2_with fail
  refine (fresh_any A c bs k _ hb (by omega)).mono ?_
  rintro e w1 ⟨rfl, hown, hbel⟩
  have hs := hbel.size
  go_wp2_with fail
  refine (behind_any k hk _ _ _ bs n w.heap.size w1 hown hs (by omega) hn2).mono ?_
  rintro e w2 ⟨A', m', c', rfl, hown2, hm2, hbel2, hs2⟩
  have HM := Lib.hid hm2
  clear hm2
  go_wp2_with fail
  go_ret2
  exact ⟨A', m', c', rfl, HM.out, hown2, hbel.trans hbel2⟩
set_option maxHeartbeats 400000 in
theorem put_many (k : Nat) (hk : Size k) (v : Value) (n : Nat) (w : World) (hn : top k < n) :
    Calls Try.prog 13 #[v, .int .u64 (n : Int), .int .i64 (k : Int)] w fun e w' => e = .returned (.tuple #[.slice none 0 0, .int .i64 6]) ∧ w = w' := by
  have ht : ((top k : Nat) : Int) < (n : Int) := by omega
  go_enter Try.func13, Try.ntmps13
  go_wp2_with fail
  refine (greatest_yes k hk _).mono ?_
  rintro e w1 ⟨rfl, rfl⟩
  go_wp2_with fail
  go_ret2
  exact ⟨rfl, rfl⟩
set_option maxHeartbeats 400000 in
theorem put_arg (z : Int) (h1 : ¬ z = 1) (h2 : ¬ z = 2) (h4 : ¬ z = 4) (h8 : ¬ z = 8) (v : Value) (n : Int) (w : World) :
    Calls Try.prog 13 #[v, .int .u64 n, .int .i64 z] w fun e w' => e = .returned (.tuple #[.slice none 0 0, .int .i64 1]) ∧ w = w' := by
  go_enter Try.func13, Try.ntmps13
  go_wp2_with fail
  refine (greatest_no z h1 h2 h4 h8 _).mono ?_
  rintro e w1 ⟨rfl, rfl⟩
  go_wp2_with fail
  go_ret2
  exact ⟨rfl, rfl⟩
set_option maxHeartbeats 1000000 in
theorem stringBehind_any (A B : Option Addr) (m c l d : Nat) (bs ss : List UInt8) (base : Nat) (w : World) (h0 : OwnB w base 5 (.slice A m c) bs) (hs : Bytes w base B ss) (hls : l = ss.length) (hb : base ≤ w.heap.size) (hl : bs.length ≤ 140737400000000) (hl2 : ss.length ≤ 4194304) :
    Calls Try.prog 49 #[.slice A m c, .slice B l d] w fun e w' => ∃ A' m' c', e = .returned (.slice A' m' c') ∧ OwnB w' base 5 (.slice A' m' c') (bs ++ be 4 ss.length ++ ss) ∧ m' = (bs ++ be 4 ss.length ++ ss).length ∧ Below base w w' ∧ base ≤ w'.heap.size := by
  subst hls
  go_enter Try.func49, Try.ntmps49
  go_wp2_with fail
  refine (behind4 A m c bs ss.length base w h0 hb (by omega) (by omega)).mono ?_
  rintro e w2 ⟨A', m', c', rfl, hown2, hm2, hbel2, hs2⟩
  have HM := Lib.hid hm2
  clear hm2
  have hs3 := Reads.below hs hbel2
  go_wp2_with (at_builtin; refine wpList_ap2 rfl _ _ rfl rfl base (.slice A' m' c') (bs ++ be 4 ss.length) ss (bs ++ be 4 ss.length ++ ss) base B ss.length d rfl rfl rfl rfl hown2 hs3 (by simp [be_len]; omega) w hbel2 hs2 ?_; intro A1 c1 n1 W1 e1 h1 hB1 hl1 hbel1 hs1 hg1; clear hB1 hg1)
  go_ret
  exact ⟨A1, n1, c1, rfl, h1, e1.out, hbel1, hs1⟩
set_option maxHeartbeats 1000000 in
theorem putString_ok (A B : Option Addr) (m c l d : Nat) (bs ss : List UInt8) (w : World) (hb : Bytes w w.heap.size A bs) (hm : m = bs.length) (hs : Bytes w w.heap.size B ss) (hls : l = ss.length) (hl : bs.length ≤ 1099511627776) (hl2 : ss.length ≤ 4194304) :
    Calls Try.prog 20 #[.slice A m c, .slice B l d] w fun e w' => ∃ A' m' c', e = .returned (.tuple #[.slice A' m' c', .int .i64 0]) ∧ m' = (bs ++ be 4 ss.length ++ ss).length ∧ OwnB w' w.heap.size 5 (.slice A' m' c') (bs ++ be 4 ss.length ++ ss) ∧ Below w.heap.size w w' := by
  subst hm hls
  go_enter Try.func20, Try.ntmps20
  go_wp2_with fail
  rw [show (4 + (ss.length : Int)) = ((4 + ss.length : Nat) : Int) by omega]
  refine (fresh_any A c bs (4 + ss.length) _ hb (by omega)).mono ?_
  rintro e w1 ⟨rfl, hown, hbel⟩
  have hs1 := hbel.size
  have hss := Reads.below hs hbel
  go_wp2_with fail
  refine (stringBehind_any _ B _ _ _ d bs ss w.heap.size w1 hown hss rfl hs1 (by omega) hl2).mono ?_
  rintro e w2 ⟨A', m', c', rfl, hown2, hm2, hbel2, hs2⟩
  have HM := Lib.hid hm2
  clear hm2
  go_wp2_with fail
  go_ret2
  exact ⟨A', m', c', rfl, HM.out, hown2, hbel.trans hbel2⟩
set_option maxHeartbeats 400000 in
theorem putString_many (v : Value) (B : Option Addr) (l d : Nat) (w : World) (hl : 4194304 < l) :
    Calls Try.prog 20 #[v, .slice B l d] w fun e w' => e = .returned (.tuple #[.slice none 0 0, .int .i64 6]) ∧ w = w' := by
  have h : (4194304 : Int) < (l : Int) := by omega
  go_enter Try.func20, Try.ntmps20
  go_wp2_with fail
  go_ret2
  exact ⟨rfl, rfl⟩
/-- strings as bytes, one behind the other. -/
def enc (l : List (List UInt8)) : List UInt8 := (l.map fun s => be 4 s.length ++ s).flatten
theorem enc_take (l : List (List UInt8)) (k : Nat) (h : k < l.length) : enc (l.take k) ++ be 4 l[k].length ++ l[k] = enc (l.take (k + 1)) := by
  unfold enc
  rw [List.take_succ_eq_append_getElem h, List.map_append, List.flatten_append]
  simp [List.append_assoc]
theorem enc_prefix (l : List (List UInt8)) (k : Nat) : (enc (l.take k)).length ≤ (enc l).length := by
  have h : enc l = enc (l.take k) ++ enc (l.drop k) := by
    unfold enc; rw [← List.flatten_append, ← List.map_append, List.take_append_drop]
  rw [h, List.length_append]; omega
/-- where Strings stands behind k rounds. -/
def Encd (w : World) (l : List (List UInt8)) (k : Nat) (v : Value) (wr : World) : Prop :=
  ∃ A n c, v = .slice A n c ∧ n = (enc (l.take k)).length ∧ OwnB wr w.heap.size 5 (.slice A n c) (enc (l.take k)) ∧ Below w.heap.size w wr
set_option maxHeartbeats 1000000 in
theorem strings_ok (A : Option Addr) (m c : Nat) (l : List (List UInt8)) (w : World) (hb : Strs w w.heap.size A l) (hm : m = l.length) (hmax : l.length ≤ maxLen) (hl : ∀ s ∈ l, s.length ≤ 4194304) (hsum : (enc l).length ≤ 137438953472) :
    Calls Try.prog 22 #[.slice A m c] w fun e w' => ∃ A' m' c', e = .returned (.tuple #[.slice A' m' c', .int .i64 0]) ∧ m' = (enc l).length ∧ OwnB w' w.heap.size 5 (.slice A' m' c') (enc l) ∧ Below w.heap.size w w' := by
  subst hm
  unfold maxLen at hmax
  go_enter Try.func22, Try.ntmps22
  go_wp2_with fail
  go_loopw [4, 6, 9] (fun v _ i wr => ∃ k : Nat, k ≤ l.length ∧ i = .int .i64 k ∧ Encd w l k v wr) (fun _ _ i _ => l.length - (intOf i).toNat)
  case atStart => exact ⟨0, by omega, rfl, none, 0, 0, rfl, rfl, OwnB.nil_ _ _ _, Below.refl _ _⟩
  case round =>
    obtain ⟨k, hk, rfl, A1, n1, c1, rfl, hn1, hown, hbw⟩ := hrel
    have HN := Lib.hid hn1
    clear hn1
    have hsz := hbw.size
    by_cases hlt : k < l.length
    · obtain ⟨b, off, Ai, ci, rfl, hB, hcw, hBw, hli, hmi⟩ := hb.at_ hlt
      have hc := (hbw.cell (p := ⟨b, off + k, none⟩) hB).trans hcw
      have hBi := Reads.below hBw hbw
      have hz := hl l[k] (List.getElem_mem hlt)
      have hen := enc_take l k hlt
      have hpre := enc_prefix l k
      generalize l[k] = z at hc hBi hli hz hen hcw hBw
      have HE := Lib.hid hen
      clear hen hcw
      go_wp2_with fail
      refine (stringBehind_any A1 Ai n1 c1 z.length ci (enc (l.take k)) z w.heap.size wr hown hBi rfl hsz (by omega) hz).mono ?_
      rintro e w2 ⟨A', m', c', rfl, hown2, hm2, hbel2, hs2⟩
      rw [HE.out] at hown2 hm2
      have HM := Lib.hid hm2
      clear hm2
      go_wp2_with fail
      go_roundw
      case rel => exact ⟨k + 1, by omega, by go_num, A', m', c', rfl, HM.out, hown2, hbw.trans hbel2⟩
      case measure => simp [intOf]; omega
    · obtain rfl : k = l.length := by omega
      rw [List.take_length] at hown
      have hn2 := HN.out
      rw [List.take_length] at hn2
      have HN2 := Lib.hid hn2
      clear HN hn2
      go_wp2_with fail
      go_ret2
      exact ⟨A1, n1, c1, rfl, HN2.out, hown, hbw⟩
end Go.Proofs.Ytnnhkanjneecjaa
