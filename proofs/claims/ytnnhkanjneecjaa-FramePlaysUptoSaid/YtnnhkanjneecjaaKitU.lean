/- What a bound on the bulk of what comes in says of bytes and of slices of bytes. -/
import Derived.Test.YtnnhkanjneecjaaKitE
import Derived.Test.YtnnhkanjneecjaaRows
namespace Go.Proofs.Ytnnhkanjneecjaa
open Go.RowKit
/-- the strings and their bytes, counted. -/
def mass (l : List (List UInt8)) : Nat := (l.map fun s => s.length + 1).sum
theorem bulk_pos {H : Type} (d : DataW H) : 1 ≤ Rows.uptoBulk d := by
  cases d with
  | lit l => cases l <;> simp [Rows.uptoBulk]
  | nil => simp [Rows.uptoBulk]
  | ptr d => simp [Rows.uptoBulk]
  | slice elems spare => simp [Rows.uptoBulk]
  | agg parts => simp [Rows.uptoBulk]
  | iface t d => simp [Rows.uptoBulk]
  | map entries => simp [Rows.uptoBulk]
  | held h => simp [Rows.uptoBulk]
theorem bulk_len {H : Type} : ∀ l : List (DataW H), l.length ≤ Rows.uptoBulkAll l
  | [] => by simp [Rows.uptoBulkAll]
  | d :: l => by have := bulk_pos d; have := bulk_len l; simp only [Rows.uptoBulkAll, List.length_cons]; omega
theorem bulk_part {H : Type} {d : DataW H} : ∀ {l : List (DataW H)} {j : Nat}, l[j]? = some d → Rows.uptoBulk d ≤ Rows.uptoBulkAll l
  | [], j, h => by simp at h
  | x :: l, 0, h => by simp at h; subst h; simp only [Rows.uptoBulkAll]; omega
  | x :: l, j + 1, h => by have := bulk_part (l := l) (j := j) (by simpa using h); simp only [Rows.uptoBulkAll]; omega
theorem bulk_sum {H : Type} (f : Nat → Nat) (g : Nat → DataW H) : ∀ rs : List Nat, (∀ r ∈ rs, f r ≤ Rows.uptoBulk (g r)) → (rs.map f).sum ≤ Rows.uptoBulkAll (rs.map g)
  | [], _ => by simp [Rows.uptoBulkAll]
  | r :: rs, h => by
    have h1 := h r (by simp)
    have h2 := bulk_sum f g rs (fun x hx => h x (by simp [hx]))
    simp only [List.map_cons, List.sum_cons, Rows.uptoBulkAll]
    omega
/-- bytes that came in are no more than the bound. -/
theorem bytes_bulk {H : Type} {ds : List (DataW H)} (hk : Rows.uptoSmall H (ds ++ []) = true) {j : Nat} {zs : List Int} {len : Nat} {spare : List (DataW H)} (hd : ds[j]? = some (.slice (ChangeShapes.lits .u8 (zs.take len)) spare)) (hz : len ≤ zs.length) : len ≤ 1048576 := by
  rw [List.append_nil] at hk
  have h : Rows.uptoBulkAll ds ≤ 1048576 := of_decide_eq_true hk
  have h1 := bulk_part hd
  have h2 := bulk_len (ChangeShapes.lits (H := H) .u8 (zs.take len))
  have h3 : (ChangeShapes.lits (H := H) .u8 (zs.take len)).length = len := by simp [ChangeShapes.lits]; omega
  simp only [Rows.uptoBulk] at h1
  omega
/-- strings that came in and their bytes are no more than the bound. -/
theorem rows_bulk {H : Type} {ds : List (DataW H)} (hk : Rows.uptoSmall H (ds ++ []) = true) {j : Nat} {A : Nat → Option Addr} {L C : Nat → Nat} {Z : Nat → List Int} {spare : List (DataW H)} {w : World} {B : Nat} {a : Addr} {l : List (List UInt8)}
    (hd : ds[j]? = some (.slice ((List.range l.length).map fun r => Deep.intRow .u8 (A r) (L r) (Z r)) spare)) (h : Strs w B (some a) l)
    (hc : ∀ r, r < l.length → w.cell? (a.add r) = some (.slice (A r) (L r) (C r)) ∧ L r ≤ C r ∧ (Z r).length = C r ∧ (A r = none → C r = 0)) : mass l ≤ 1048576 := by
  rw [List.append_nil] at hk
  have hb : Rows.uptoBulkAll ds ≤ 1048576 := of_decide_eq_true hk
  have h1 := bulk_part hd
  have h2 := bulk_sum (H := H) (fun r => L r + 1) (fun r => Deep.intRow .u8 (A r) (L r) (Z r)) (List.range l.length) (fun r hr => by
    obtain ⟨_, x2, x3, x4⟩ := hc r (List.mem_range.1 hr)
    cases hA : A r with
    | none => have := x4 hA; simp only [Deep.intRow, Rows.uptoBulk]; omega
    | some b =>
      have y1 := bulk_len (ChangeShapes.lits (H := H) .u8 ((Z r).take (L r)))
      have y3 : (ChangeShapes.lits (H := H) .u8 ((Z r).take (L r))).length = L r := by simp [ChangeShapes.lits]; omega
      simp only [Deep.intRow, Rows.uptoBulk]
      omega)
  have h3 : (l.map fun s => s.length + 1) = (List.range l.length).map fun r => L r + 1 := by
    refine List.ext_getElem (by simp) fun i h1 h2 => ?_
    simp only [List.length_map] at h1
    obtain ⟨b, off, Ai, ci, hA, _, hcell, _⟩ := h.at_ h1
    injection hA with hA
    subst hA
    obtain ⟨h1, _⟩ := hc i h1
    have hadd : (⟨b, off, none⟩ : Addr).add i = ⟨b, off + i, none⟩ := by unfold Addr.add; split <;> simp_all
    rw [hadd, hcell] at h1
    injection h1 with h1
    injection h1 with _ h1 _
    simp [h1]
  unfold mass
  rw [h3]
  simp only [Rows.uptoBulk] at h1
  omega
end Go.Proofs.Ytnnhkanjneecjaa
