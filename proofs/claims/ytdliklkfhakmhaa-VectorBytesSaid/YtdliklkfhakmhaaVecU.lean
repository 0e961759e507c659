import Derived.Test.YtdliklkfhakmhaaVecT
import Derived.Test.YtdliklkfhakmhaaPlanV
import Derived.Test.YtdliklkfhakmhaaVecW
import Derived.Test.YtdliklkfhakmhaaVecO
namespace Go.Proofs.Ytdliklkfhakmhaa
open Go.RowKit
/-! a copy of a slice of vectors. -/
theorem run_buildV0 (W : World) : (buildV 0 #[]).run Try.prog W = .ok (.slice (some ⟨W.heap.size, 0, none⟩) 0 0) (W.alloc (.cells #[] 24)) := by kernel_rfl
theorem run_append_zero (W : World) (g : Nat) (A : Option Addr) (c : Nat) (ty : TypeId) : (Builtin.append_ #[25, 25] ty #[.slice (some ⟨g, 0, none⟩) 0 0, .slice A 0 c]).run Try.prog W = .ok (.slice (some ⟨g, 0, none⟩) 0 0) W := by
  cases A with
  | none => kernel_rfl
  | some a => kernel_rfl
theorem flat_len : ∀ (l : List (List Nat)), (∀ v ∈ l, v.length = 6) → (l.flatMap vecL).length = l.length * 6
  | [], _ => rfl
  | a :: l, h => by
    rw [List.flatMap_cons, List.length_append, vecL_len, h a (by simp), flat_len l (fun v hv => h v (by simp [hv])), List.length_cons]; omega
theorem run_copyV {w : World} {B : Nat} (g : Nat) (hB : Blk w g 24 #[]) (A : Option Addr) (n c : Nat) (l : List (List Nat)) (hl : Vecs w B A l) (h6 : ∀ v ∈ l, v.length = 6) (hn : n = l.length) (hmx : n ≤ 1099511627776) (ty : TypeId) :
    ∃ A' c' w', (Builtin.append_ #[25, 25] ty #[.slice (some ⟨g, 0, none⟩) 0 0, .slice A n c]).run Try.prog w = .ok (.slice A' n c') w' ∧ Vecs w' w'.heap.size A' l ∧ w.grownBy w' (some g) := by
  rcases Nat.eq_zero_or_pos n with h0 | h0
  · subst h0
    have hl0 : l = [] := List.eq_nil_of_length_eq_zero hn.symm
    subst hl0
    exact ⟨_, _, w, run_append_zero w g A c ty, fun h => absurd h (by simp), ⟨rfl, rfl, rfl, Nat.le_refl _, fun _ _ _ => rfl⟩⟩
  · obtain ⟨b, off, rfl, hlt, hc⟩ := hl (by omega)
    obtain ⟨i0, hi, hz0, hz1, hz2⟩ := info_parts infoVF
    have hown : w.ownsRow g 24 6 (.slice (some ⟨g, 0, none⟩) 0 0) 0 [] := ⟨rfl, .inr ⟨g, 0, #[], rfl, Nat.le_refl _, hB, Nat.le_refl _, by decide, rfl, rfl⟩⟩
    obtain ⟨v', w', hrun, h2, h3, _, _⟩ := run_append_own_at (P := Try.prog) w g 25 ty 24 i0 (.agg (vecA Z6)) 6 48 Try.underlying25 hi hz0 hz1 hz2 rfl (by omega) _ 0 [] hown ⟨b, off, none⟩ n c (l.flatMap vecL)
      (by rw [flat_len l h6, hn]) (fun j u hu => by
        rw [Addr.add_mid]
        have hj : j < l.length * 6 := by
          rw [← flat_len l h6]
          rcases Nat.lt_or_ge j (l.flatMap vecL).length with h | h
          · exact h
          · rw [List.getElem?_eq_none h] at hu; cases hu
        have hq : j / 6 < l.length := by omega
        have e : j = j / 6 * 6 + j % 6 := by omega
        have h1 := flat_at l h6 (j / 6) l[j / 6] (j % 6) (List.getElem?_eq_getElem hq) (by omega)
        rw [← e, hu] at h1
        have h2 := (hc (j / 6) l[j / 6] (List.getElem?_eq_getElem hq)).2 (j % 6) u h1.symm
        rw [show off + j = off + j / 6 * 6 + j % 6 by omega]
        exact h2)
      (fun u hu => by
        obtain ⟨L, _, hu⟩ := List.mem_flatMap.1 hu
        exact vecL_one L u hu) (by unfold maxLen; omega) (by omega) (Nat.le_of_lt hB.lt)
    have hO : OwnV w' g v' l := by
      unfold OwnV; rw [← hn]; rw [Nat.zero_add, List.nil_append] at h2; exact h2
    obtain ⟨A', c', rfl, hV, _⟩ := hO.open_ h6
    rw [← hn] at hrun
    exact ⟨A', c', w', hrun, hV, h3⟩
theorem wpList_copyV {ops : Array Oper} {rest : List Oper} {o : Oper} {a : Act} {w : World} {Q : Exit → Act → World → Prop} (hw : Region.wanted o (yielded ops a.tmps) = true) (s x : Operand) (ho : o.op = .call { callee := .builtin .append, args := #[s, x], argTypes := #[25, 25] })
    (g : Nat) (A : Option Addr) (n c B : Nat) (l : List (List Nat)) (hs : a.eval s = .slice (some ⟨g, 0, none⟩) 0 0) (hx : a.eval x = .slice A n c) (hB : Blk w g 24 #[]) (hl : Vecs w B A l) (h6 : ∀ v ∈ l, v.length = 6) (hn : n = l.length) (hmx : n ≤ 1099511627776)
    (h : ∀ A' c' w', Vecs w' w'.heap.size A' l → w.grownBy w' (some g) → wpList Try.prog ops Q rest (a.put o.dst (.slice A' n c')) w') : wpList Try.prog ops Q (o :: rest) a w := by
  obtain ⟨A', c', w', hr, hV, hg⟩ := run_copyV g hB A n c l hl h6 hn hmx o.type
  refine wpList_wanted hw ?_
  unfold Oper.wp execOp
  simp only [ho, resolve, invoke, builtin, Sem.run_bind, Sem.run_pure, Result.andThen_ok, List.map_toArray, List.map_cons, List.map_nil, hs, hx, hr]
  exact h A' c' w' hV hg
end Go.Proofs.Ytdliklkfhakmhaa
