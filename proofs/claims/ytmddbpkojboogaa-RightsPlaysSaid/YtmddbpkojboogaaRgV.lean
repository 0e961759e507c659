import Derived.Test.YtmddbpkojboogaaRgU
namespace Go.Proofs.Ytmddbpkojboogaa
open Go.RowKit
/-! rights: joins; what a step that goes makes. -/
theorem joinR_comm {L M : List Int} (h : L.length = 54) (h' : M.length = 54) : joinR L M = joinR M L := by
  refine ext54 (joinR_len h h') (joinR_len h' h) fun n hn => ?_
  rw [joinR_at h h' n hn, joinR_at h' h n hn]
  split <;> split <;> omega
theorem joinR_assoc {L M N : List Int} (h : L.length = 54) (h' : M.length = 54) (h2 : N.length = 54) : joinR (joinR L M) N = joinR L (joinR M N) := by
  refine ext54 (joinR_len (joinR_len h h') h2) (joinR_len h (joinR_len h' h2)) fun n hn => ?_
  rw [joinR_at (joinR_len h h') h2 n hn, joinR_at h (joinR_len h' h2) n hn, joinR_at h h' n hn, joinR_at h' h2 n hn]
  (repeat' split) <;> omega
theorem joinR_self {L : List Int} (h : L.length = 54) : joinR L L = L := by
  refine ext54 (joinR_len h h) h fun n hn => ?_
  rw [joinR_at h h n hn]; split <;> rfl
theorem wf_join {L M : List Int} (h : L.length = 54) (h' : M.length = 54) (w : WfR L) (w' : WfR M) : WfR (joinR L M) := by
  intro x hx
  obtain ⟨n, hn, rfl⟩ := List.mem_iff_getElem.1 hx
  have hn54 : n < 54 := by rw [joinR_len h h'] at hn; exact hn
  have := joinR_at h h' n hn54
  rw [show (joinR L M).getD n 0 = (joinR L M)[n] by simp [hn]] at this
  rw [this]
  split
  · rw [show M.getD n 0 = M[n] by simp [show n < M.length by omega]]; exact w' _ (List.getElem_mem _)
  · rw [show L.getD n 0 = L[n] by simp [show n < L.length by omega]]; exact w _ (List.getElem_mem _)
/-- what is at most rights is at most what they become. -/
theorem join_keep {L M A : List Int} (h : L.length = 54) (h' : M.length = 54) (ha : A.length = 54) (h1 : joinR L M = L) (h2 : joinR L A = A) : joinR A M = A := by
  have e : joinR (joinR L A) M = joinR L A := by
    rw [joinR_comm h ha, joinR_assoc ha h h', h1]
  rwa [h2] at e
def givenX (s : RStep) : Int := if s.d % 4 = 0 then s.x else 0
theorem does_goes {s : RStep} {L A : List Int} (h : L.length = 54) (he : doesR s L = (A, 0)) : mayR L = true ∧ Goes L A (givenX s) ∧ (1 ≤ s.x ∧ s.x ≤ 1125899906842624) := by
  unfold doesR at he
  unfold givenX
  by_cases e0 : s.d % 4 = 0
  · rw [if_pos e0] at he ⊢
    have h2 : (guardR L s.x [s.i] (giveE L (s.i - 1).toNat s.x)).2 = 0 := by show (giveR L s.i s.x).2 = 0; rw [he]
    obtain ⟨⟨hm, hx1, hx2, hreg⟩, hE, hg⟩ := guard_yes h2
    obtain ⟨k, hk, hz, hk1⟩ := reg_nat (all_one hreg)
    have hA : giveE L k s.x = (A, 0) := by rw [← he]; show _ = guardR L s.x _ _; rw [hg, hk1]
    unfold giveE at hA
    by_cases e1 : limitR L + s.x ≤ 1125899906842624
    · rw [if_pos e1] at hA; injection hA with hA _
      have := (give_goes h hm hk hx1 e1).1
      rw [hA] at this
      exact ⟨hm, this, hx1, hx2⟩
    · rw [if_neg e1] at hA; injection hA with _ h3; cases h3
  rw [if_neg e0] at he ⊢
  by_cases e1 : s.d % 4 = 1
  · rw [if_pos e1] at he
    have h2 : (guardR L s.x [s.i] (takeE L (s.i - 1).toNat s.x)).2 = 0 := by show (takeR L s.i s.x).2 = 0; rw [he]
    obtain ⟨⟨hm, hx1, hx2, hreg⟩, hE, hg⟩ := guard_yes h2
    obtain ⟨k, hk, hz, hk1⟩ := reg_nat (all_one hreg)
    have hA : takeE L k s.x = (A, 0) := by rw [← he]; show _ = guardR L s.x _ _; rw [hg, hk1]
    unfold takeE at hA
    by_cases e2 : s.x ≤ leftR L k
    · rw [if_pos e2] at hA
      by_cases e3 : cR L k + s.x ≤ 1125899906842624
      · rw [if_pos e3] at hA; injection hA with hA _
        have := (take_goes h hm hk hx1 e2 e3).1
        rw [hA] at this
        exact ⟨hm, this, hx1, hx2⟩
      · rw [if_neg e3] at hA; injection hA with _ h3; cases h3
    · rw [if_neg e2] at hA; injection hA with _ h3; cases h3
  rw [if_neg e1] at he
  by_cases e2 : s.d % 4 = 2
  · rw [if_pos e2] at he
    have h2 : (guardR L s.x [s.i] (freeE L (s.i - 1).toNat s.x)).2 = 0 := by show (freeR L s.i s.x).2 = 0; rw [he]
    obtain ⟨⟨hm, hx1, hx2, hreg⟩, hE, hg⟩ := guard_yes h2
    obtain ⟨k, hk, hz, hk1⟩ := reg_nat (all_one hreg)
    have hA : freeE L k s.x = (A, 0) := by rw [← he]; show _ = guardR L s.x _ _; rw [hg, hk1]
    unfold freeE at hA
    by_cases e3 : s.x ≤ cR L k - fR L k
    · rw [if_pos e3] at hA; injection hA with hA _
      have := (free_goes h hm hk hx1 e3).1
      rw [hA] at this
      exact ⟨hm, this, hx1, hx2⟩
    · rw [if_neg e3] at hA; injection hA with _ h3; cases h3
  · rw [if_neg e2] at he
    have h2 : (guardR L s.x [s.i, s.j] (moveE L (s.i - 1).toNat (s.j - 1).toNat s.x)).2 = 0 := by show (moveR L s.i s.j s.x).2 = 0; rw [he]
    obtain ⟨⟨hm, hx1, hx2, _⟩, _, _⟩ := guard_yes h2
    exact ⟨hm, (moveR_goes h hm he).1, hx1, hx2⟩
theorem does_no {s : RStep} {L A : List Int} {e : Int} (he : doesR s L = (A, e)) (hne : ¬ e = 0) : A = Z54 := by
  unfold doesR at he
  by_cases e0 : s.d % 4 = 0
  · rw [if_pos e0] at he
    have h2 : ¬ (guardR L s.x [s.i] (giveE L (s.i - 1).toNat s.x)).2 = 0 := by show ¬ (giveR L s.i s.x).2 = 0; rw [he]; exact hne
    have h3 : (giveR L s.i s.x).1 = Z54 := guard_no h2
    rw [he] at h3; exact h3
  rw [if_neg e0] at he
  by_cases e1 : s.d % 4 = 1
  · rw [if_pos e1] at he
    have h2 : ¬ (guardR L s.x [s.i] (takeE L (s.i - 1).toNat s.x)).2 = 0 := by show ¬ (takeR L s.i s.x).2 = 0; rw [he]; exact hne
    have h3 : (takeR L s.i s.x).1 = Z54 := guard_no h2
    rw [he] at h3; exact h3
  rw [if_neg e1] at he
  by_cases e2 : s.d % 4 = 2
  · rw [if_pos e2] at he
    have h2 : ¬ (guardR L s.x [s.i] (freeE L (s.i - 1).toNat s.x)).2 = 0 := by show ¬ (freeR L s.i s.x).2 = 0; rw [he]; exact hne
    have h3 : (freeR L s.i s.x).1 = Z54 := guard_no h2
    rw [he] at h3; exact h3
  · rw [if_neg e2] at he
    exact moveR_no he hne
theorem Rs.row {w W : World} {l : List (Nat × List Int)} {g : Nat} {L M : List Int} (h : Rs w W (l ++ [(g, L)])) (hl : ∀ p ∈ l, p.1 ≠ g) (hM : M.length = 54) (hg : w.heap.size ≤ g) : Rs w (W.setRow g (rgtA M)) (l ++ [(g, M)]) := by
  refine ⟨fun p hp => ?_, below_setRow h.bel hg _⟩
  rcases List.mem_append.1 hp with hp | hp
  · have := h.blk p (List.mem_append.2 (.inl hp))
    exact ⟨this.blk.rowFar (hl p hp) _, this.len⟩
  · rw [List.mem_singleton.1 hp]
    have := h.blk (g, L) (List.mem_append.2 (.inr (List.mem_singleton.2 rfl)))
    exact ⟨this.blk.row _, hM⟩
end Go.Proofs.Ytmddbpkojboogaa
