import Derived.Test.YtnnhkanjneecjaaFrB
namespace Go.Proofs.Ytnnhkanjneecjaa
open Go.RowKit
/-! frame: the reader. -/
/-- a reader of bytes of its own, at a place. -/
def RD (w : World) (base g : Nat) (A : Option Addr) (c : Nat) (bs : List UInt8) (a : Nat) : Prop :=
  Blk w g 78 #[.slice A bs.length c, .int .i64 (a : Int)] ∧ Bytes w g A bs ∧ bs.length ≤ c ∧ c ≤ maxLen ∧ base ≤ g ∧ a ≤ bs.length
theorem RD.below {w w' : World} {base g : Nat} {A : Option Addr} {c : Nat} {bs : List UInt8} {a : Nat} (h : RD w base g A c bs a) (hb : Below w.heap.size w w') : RD w' base g A c bs a :=
  ⟨h.1.below hb h.1.lt, Reads.below h.2.1 (hb.mono (Nat.le_of_lt h.1.lt)), h.2.2⟩
theorem new_any (A : Option Addr) (n c : Nat) (bs : List UInt8) (w : World) (hb : Bytes w w.heap.size A bs) (hn : n = bs.length) (hl : bs.length ≤ 1099511627776) :
    Calls Try.prog 40 #[.slice A n c] w fun e w' => ∃ g A' c', e = .returned (.pointer (some ⟨g, 0, none⟩)) ∧ RD w' w.heap.size g A' c' bs 0 ∧ Below w.heap.size w w' := by
  subst hn
  go_enter Try.func40, Try.ntmps40
  go_wp2_with (at_builtin; refine wpList_ap2 rfl _ _ rfl rfl w.heap.size (.slice (some ⟨w.heap.size, 0, none⟩) 0 0) [] bs bs w.heap.size A bs.length c rfl rfl rfl rfl (OwnB.made w _ 5 (Nat.le_refl _)) (Reads.alloc hb (Nat.le_refl _) _) (by simp; omega) w ((Below.refl _ _).alloc (Nat.le_refl _) _) (by simp) ?_; intro A3 c3 n3 W3 e3 h3 hB3 hl3 hbel3 hs3 hg3; clear hB3 hg3 hl3)
  go_ret
  obtain ⟨x1, x2, x3, x4⟩ := own_open h3
  subst x4
  exact ⟨W3.heap.size, A3, c3, rfl, ⟨Blk.new W3 _ _, Reads.alloc x1 (Nat.le_refl _) _, x2, x3, hs3, by omega⟩, hbel3.alloc hs3 _⟩
theorem at_any {w : World} {base g : Nat} {A : Option Addr} {c : Nat} {bs : List UInt8} {a : Nat} (h : RD w base g A c bs a) :
    Calls Try.prog 44 #[.pointer (some ⟨g, 0, none⟩)] w fun e w' => e = .returned (.int .i64 (a : Int)) ∧ w = w' := by
  have h1 := h.1.cell 1
  go_enter Try.func44, Try.ntmps44
  go_wp2_with fail
  go_ret
  exact ⟨rfl, rfl⟩
theorem at_nil (w : World) : Calls Try.prog 44 #[.pointer none] w fun e w' => e = .returned (.int .i64 0) ∧ w = w' := by
  go_enter Try.func44, Try.ntmps44
  go_wp2_with fail
  go_ret
  exact ⟨rfl, rfl⟩
theorem next_nil (w : World) : Calls Try.prog 43 #[.pointer none] w fun e w' => e = .returned (.tuple #[.slice none 0 0, .bool false]) ∧ w = w' := by
  go_enter Try.func43, Try.ntmps43
  go_wp2_with fail
  go_ret2
  exact ⟨rfl, rfl⟩
theorem ftake_yes (A : Option Addr) (c a : Nat) (bs : List UInt8) (w : World) (hb : Bytes w w.heap.size A bs) (hc : bs.length ≤ c) (hl : bs.length ≤ maxLen) (hcm : c ≤ maxLen) (h : fok bs a) :
    Calls Try.prog 38 #[.slice A bs.length c, .int .i64 (a : Int)] w fun e w' =>
      ∃ A' n' c', e = .returned (.tuple #[.slice A' n' c', .int .i64 ((fnx bs a : Nat) : Int), .int .i64 0]) ∧ n' = (recAt bs a).length ∧ OwnB w' w.heap.size 5 (.slice A' n' c') (recAt bs a) ∧ Below w.heap.size w w' := by
  refine (ftake_any A c a bs w hb hc hl hcm (by have := h.1; omega)).mono ?_
  rintro e w' (⟨_, h'⟩ | ⟨h', _⟩)
  · exact h'
  · exact absurd h h'
theorem ftake_no (A : Option Addr) (c a : Nat) (bs : List UInt8) (w : World) (hb : Bytes w w.heap.size A bs) (hc : bs.length ≤ c) (hl : bs.length ≤ maxLen) (hcm : c ≤ maxLen) (ha : a ≤ bs.length) (h : ¬ fok bs a) :
    Calls Try.prog 38 #[.slice A bs.length c, .int .i64 (a : Int)] w fun e w' => e = .returned (.tuple #[.slice none 0 0, .int .i64 0, .int .i64 5]) ∧ Below w.heap.size w w' := by
  refine (ftake_any A c a bs w hb hc hl hcm ha).mono ?_
  rintro e w' (⟨h', _⟩ | ⟨_, h'⟩)
  · exact absurd h' h
  · exact h'
set_option maxHeartbeats 1000000 in
theorem next_yes {w : World} {base g : Nat} {A : Option Addr} {c : Nat} {bs : List UInt8} {a : Nat} (h : RD w base g A c bs a) (hl : bs.length ≤ maxLen) (hbw : base ≤ w.heap.size) (hok : fok bs a) :
    Calls Try.prog 43 #[.pointer (some ⟨g, 0, none⟩)] w fun e w' =>
      ∃ A' n' c', e = .returned (.tuple #[.slice A' n' c', .bool true]) ∧ n' = (recAt bs a).length ∧ OwnB w' w.heap.size 5 (.slice A' n' c') (recAt bs a) ∧ RD w' base g A c bs (fnx bs a) ∧ Below base w w' ∧ ∃ w1, Below w.heap.size w w1 ∧ w' = w1.setCell ⟨g, 1, none⟩ (.int .i64 ((fnx bs a : Nat) : Int)) := by
  obtain ⟨hB, hby, hc, hcm, hbg, ha⟩ := h
  have h0 := hB.cell 0
  have h1 := hB.cell 1
  have hlt := hB.lt
  have OK := Lib.hid hok
  clear hok
  go_enter Try.func43, Try.ntmps43
  go_wp2_with fail
  go_region_with (go_at_call 38; refine (ftake_yes A c a bs _ (by exact Reads.more hby (Nat.le_of_lt hlt)) hc hl hcm OK.out).mono ?_; rintro e w1 ⟨A1, n1, c1, rfl, hn1, hown1, hb1⟩; clear h0 h1; have N1 := Lib.hid hn1; clear hn1; have hnx : fnx bs a ≤ bs.length := OK.out.1; have hb1' : Below w.heap.size w w1 := (Below.refl w.heap.size w).drew.trans hb1; have hB1 := hB.below hb1' hlt; have hf1 := hB1.frozen 1; have h1' := hB1.cell 1; have hby1 := Reads.below hby (hb1'.mono (Nat.le_of_lt hlt)))
  all_goals go_wp2_with fail
  all_goals go_ret2
  all_goals refine ⟨A1, n1, c1, rfl, N1.out, ?_, ⟨?_, ?_, hc, hcm, hbg, hnx⟩, (hb1'.mono hbw).setCell hbg _, w1, hb1', rfl⟩
  all_goals first | exact ownsRow_setCell_below hown1 hlt _ | exact hB1.set_ 1 _ | exact Reads.setCell hby1 (Nat.le_refl _) _
set_option maxHeartbeats 1000000 in
theorem next_no {w : World} {base g : Nat} {A : Option Addr} {c : Nat} {bs : List UInt8} {a : Nat} (h : RD w base g A c bs a) (hl : bs.length ≤ maxLen) (hbw : base ≤ w.heap.size) (hok : ¬ fok bs a) :
    Calls Try.prog 43 #[.pointer (some ⟨g, 0, none⟩)] w fun e w' =>
      e = .returned (.tuple #[.slice none 0 0, .bool false]) ∧ RD w' base g A c bs a ∧ Below w.heap.size w w' := by
  obtain ⟨hB, hby, hc, hcm, hbg, ha⟩ := h
  have h0 := hB.cell 0
  have h1 := hB.cell 1
  have hlt := hB.lt
  have OK := Lib.hid hok
  clear hok
  go_enter Try.func43, Try.ntmps43
  go_wp2_with fail
  go_region_with (go_at_call 38; refine (ftake_no A c a bs _ (by exact Reads.more hby (Nat.le_of_lt hlt)) hc hl hcm ha OK.out).mono ?_; rintro e w1 ⟨rfl, hb1⟩; clear h0 h1; have hb1' : Below w.heap.size w w1 := (Below.refl w.heap.size w).drew.trans hb1)
  all_goals go_wp2_with fail
  all_goals go_ret2
  all_goals exact ⟨rfl, ⟨hB.below hb1' hlt, Reads.below hby (hb1'.mono (Nat.le_of_lt hlt)), hc, hcm, hbg, ha⟩, hb1'⟩
end Go.Proofs.Ytnnhkanjneecjaa
