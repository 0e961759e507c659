import Derived.Test.YtmddbpkojboogaaVecC
import Derived.Deep.MidRow
namespace Go.Proofs.Ytmddbpkojboogaa
open Go.RowKit
/-! vector: the greatest and the least numbers. -/
theorem ahead_join (x y : Int) (w : World) : Calls Try.prog 36 #[.int .u64 x, .int .u64 y] w fun e w' => e = .returned (.bool (decide (x < y))) ∧ w = w' := by
  go_enter Try.func36, Try.ntmps36
  go_wp2_with fail
  go_ret
  exact ⟨rfl, rfl⟩
theorem ahead_meet (x y : Int) (w : World) : Calls Try.prog 38 #[.int .u64 x, .int .u64 y] w fun e w' => e = .returned (.bool (decide (y < x))) ∧ w = w' := by
  go_enter Try.func38, Try.ntmps38
  go_wp2_with fail
  go_ret
  exact ⟨rfl, rfl⟩
/-- a slice of vectors. -/
def vecL (L : List Nat) : List Value := L.map fun n : Nat => Value.int .u64 (n : Int)
def Vecs (w : World) (B : Nat) (A : Option Addr) (l : List (List Nat)) : Prop :=
  0 < l.length → ∃ b off, A = some ⟨b, off, none⟩ ∧ b < B ∧ ∀ i (L : List Nat), l[i]? = some L → L.length = 6 ∧ w.rangeAt b (off + i * 6) (vecL L)
theorem Vecs.below {w w' : World} {B : Nat} {A : Option Addr} {l : List (List Nat)} (h : Vecs w B A l) (hb : Below B w w') : Vecs w' B A l := fun h0 => by
  obtain ⟨b, off, hA, hB, hc⟩ := h h0
  exact ⟨b, off, hA, hB, fun i L hi => ⟨(hc i L hi).1, fun j x hj => (hb.cell (p := ⟨b, off + i * 6 + j, none⟩) hB).trans ((hc i L hi).2 j x hj)⟩⟩
theorem Vecs.more {w : World} {B B' : Nat} {A : Option Addr} {l : List (List Nat)} (h : Vecs w B A l) (hB : B ≤ B') : Vecs w B' A l := fun h0 => by
  obtain ⟨b, off, hA, hb, hc⟩ := h h0
  exact ⟨b, off, hA, Nat.lt_of_lt_of_le hb hB, hc⟩
/-- six numbers. -/
theorem six {L : List Nat} (h : L.length = 6) : ∃ a b c d e f, L = [a, b, c, d, e, f] := by
  match L, h with
  | [a, b, c, d, e, f], _ => exact ⟨a, b, c, d, e, f, rfl⟩
def pick (f : Nat → Nat → Bool) (o n : Nat) : Nat := if f o n then n else o
/-- what chosen tells. -/
def chosenV (f : Nat → Nat → Bool) : List (List Nat) → List Nat
  | [] => [0, 0, 0, 0, 0, 0]
  | v :: vs => vs.foldl (fun o n => List.zipWith (pick f) o n) v
/-- an element of a slice of vectors, loaded. -/
theorem vecs_load {w : World} {b o : Nat} {L : List Nat} (h : L.length = 6) (hc : w.rangeAt b o (vecL L)) :
    (Instr.loadAt 24 (.pointer (some ⟨b, o, none⟩))).run Try.prog w = .ok (.agg (vecA L)) w :=
  run_loadAt_mid w b o 24 (vecL L) _ hc Try.underlying24 rfl (by rw [show (vecL L).length = 6 by simp [vecL, h]]; exact infoV)
theorem chosenV_snoc (f : Nat → Nat → Bool) (l : List (List Nat)) (v : List Nat) (h : l ≠ []) : chosenV f (l ++ [v]) = List.zipWith (pick f) (chosenV f l) v := by
  cases l with
  | nil => exact absurd rfl h
  | cons a l => simp [chosenV, List.foldl_append]
theorem chosenV_one (f : Nat → Nat → Bool) (v : List Nat) : chosenV f [v] = v := rfl
theorem chosenV_len (f : Nat → Nat → Bool) : ∀ l : List (List Nat), (∀ v ∈ l, v.length = 6) → (chosenV f l).length = 6
  | [], _ => rfl
  | v :: vs, h => by
    have go : ∀ (ws : List (List Nat)) (o : List Nat), o.length = 6 → (∀ x ∈ ws, x.length = 6) → (ws.foldl (fun o n => List.zipWith (pick f) o n) o).length = 6 := by
      intro ws
      induction ws with
      | nil => intro o ho _; exact ho
      | cons x ws ih =>
        intro o ho hx
        exact ih _ (by rw [List.length_zipWith, ho, hx x (by simp)]; rfl) (fun y hy => hx y (by simp [hy]))
    exact go vs v (h v (by simp)) (fun x hx => h x (by simp [hx]))
end Go.Proofs.Ytmddbpkojboogaa
