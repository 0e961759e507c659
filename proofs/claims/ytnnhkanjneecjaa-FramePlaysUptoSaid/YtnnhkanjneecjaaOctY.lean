import Derived.Test.YtnnhkanjneecjaaOctX
namespace Go.Proofs.Ytnnhkanjneecjaa
open Go.RowKit
/-! TakeString and the document's answer the same. -/
/-- a string, the next place and an error handed back. -/
def TakenS (w : World) (S : List UInt8) (N E : Int) (e : Ending) (w' : World) : Prop :=
  ∃ A n c, e = .returned (.tuple #[.slice A n c, .int .i64 N, .int .i64 E]) ∧ n = S.length ∧ OwnB w' w.heap.size 5 (.slice A n c) S ∧ Below w.heap.size w w'
theorem taken_none {w : World} {E : Int} {e : Ending} {w' : World} (h : e = .returned (.tuple #[.slice none 0 0, .int .i64 0, .int .i64 E]) ∧ w = w') : TakenS w [] 0 E e w' := by
  obtain ⟨rfl, rfl⟩ := h
  exact ⟨none, 0, 0, rfl, rfl, OwnB.nil_ _ _ _, Below.refl _ _⟩
theorem takeStrings_same (bs : List UInt8) (a q : Int) (hl : bs.length ≤ 1099511627776) (hq : -9223372036854775808 ≤ q ∧ q ≤ 9223372036854775807) : ∃ (S : List UInt8) (N E : Int),
    (∀ (A : Option Addr) (c : Nat) (w : World), Bytes w w.heap.size A bs → bs.length ≤ c → c ≤ maxLen → Calls Try.prog 24 #[.slice A bs.length c, .int .i64 a, .int .i64 q] w (TakenS w S N E)) ∧
    (∀ (A : Option Addr) (c : Nat) (w : World), Bytes w w.heap.size A bs → bs.length ≤ c → c ≤ maxLen → Calls Try.prog 25 #[.slice A bs.length c, .int .i64 a, .int .i64 q] w (TakenS w S N E)) := by
  have hmax : bs.length ≤ maxLen := by unfold maxLen; omega
  by_cases hp : a < 0 ∨ (bs.length : Int) < a
  · exact ⟨[], 0, 1, fun A c w _ _ _ => (takeString_place A _ c a q w hp).mono fun e w' h => taken_none h, fun A c w _ _ _ => (rtakeString_place A _ c a q w hp).mono fun e w' h => taken_none h⟩
  · obtain ⟨p, rfl⟩ := Int.eq_ofNat_of_zero_le (show 0 ≤ a by omega)
    by_cases he : nxE bs q p = 0
    · exact ⟨strAt bs p, _, 0, fun A c w hb hc hcm => (takeString_yes A c bs p q w hb hc hmax hcm hq.2 he).mono fun e w' h => h, fun A c w hb hc hcm => (rtakeString_yes A c bs p q w hb hc hl hcm hq.2 he).mono fun e w' h => h⟩
    · exact ⟨[], 0, _, fun A c w hb hc _ => (takeString_err A c bs p q w hb hc hmax (by omega) hq he).mono fun e w' h => taken_none h, fun A c w hb hc _ => (rtakeString_err A c bs p q w hb hc hmax (by omega) hq he).mono fun e w' h => taken_none h⟩
end Go.Proofs.Ytnnhkanjneecjaa
