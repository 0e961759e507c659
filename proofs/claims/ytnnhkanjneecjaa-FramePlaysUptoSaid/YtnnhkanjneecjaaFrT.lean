import Derived.Test.YtnnhkanjneecjaaFrR
namespace Go.Proofs.Ytnnhkanjneecjaa
open Go.RowKit
/-! frames of which a byte was turned. -/
theorem set_frames (l : List (List UInt8)) (k p : Nat) (v : UInt8) (h : k < l.length) (h1 : (encF (l.take k)).length ≤ p) (h2 : p < (encF (l.take (k + 1))).length) :
    (encF l).set p v = encF (l.take k) ++ ((fr l[k]).set (p - (encF (l.take k)).length) v ++ encF (l.drop (k + 1))) := by
  have e : encF l = encF (l.take k) ++ (fr l[k] ++ encF (l.drop (k + 1))) := by
    rw [← List.append_assoc, ← encF_take l k h, ← encF_app, List.take_append_drop]
  have hlen : (encF (l.take (k + 1))).length = (encF (l.take k)).length + (fr l[k]).length := by rw [encF_take l k h, List.length_append]
  rw [e, List.set_append, if_neg (by omega), List.set_append, if_pos (by omega)]
theorem set_ne {s : List UInt8} {j : Nat} {v : UInt8} (hj : j < s.length) (hv : ¬ v = s[j]) : ¬ s.set j v = s := by
  intro h
  have := congrArg (fun x => x[j]?) h
  simp only [List.getElem?_set_self hj, List.getElem?_eq_getElem hj] at this
  injection this with this
  exact hv this
/-- a byte of the sum or of the record turned: the frame does not stand. -/
theorem fok_turned (s r : List UInt8) (q : Nat) (v : UInt8) (hs : s.length ≤ 4096) (h4 : 4 ≤ q) (hq : q < (fr s).length) (hv : ¬ v = (fr s)[q]) : ¬ fok ((fr s).set q v ++ r) 0 := by
  have hfl := fr_len s
  generalize hC : cs (be 4 s.length ++ s) = C
  have hfr : fr s = be 4 s.length ++ (be 4 C.toNat ++ s) := by unfold fr hd; rw [hC, List.append_assoc]
  by_cases h8 : q < 8
  · have hj : q - 4 < (be 4 C.toNat).length := by rw [be_len]; omega
    have e : (fr s).set q v = be 4 s.length ++ ((be 4 C.toNat).set (q - 4) v ++ s) := by
      rw [hfr, List.set_append, if_neg (by rw [be_len]; omega), be_len, List.set_append, if_pos hj]
    have hvj : ¬ v = (be 4 C.toNat)[q - 4] := by
      intro hh
      apply hv
      have : (fr s)[q]? = (be 4 C.toNat)[q - 4]? := by
        rw [hfr, List.getElem?_append_right (by rw [be_len]; omega), be_len, List.getElem?_append_left hj]
      rw [List.getElem?_eq_getElem hq, List.getElem?_eq_getElem hj] at this
      injection this with this
      rw [this, hh]
    have hx : be 4 (vl ((be 4 C.toNat).set (q - 4) v)) = (be 4 C.toNat).set (q - 4) v := be_vl _ (by rw [List.length_set, be_len])
    have hlt : vl ((be 4 C.toNat).set (q - 4) v) < 4294967296 := by
      have := vl_lt ((be 4 C.toNat).set (q - 4) v)
      rw [List.length_set, be_len] at this
      exact this
    rw [e, ← hx]
    have := fok_sum s r (vl ((be 4 C.toNat).set (q - 4) v)) hs (by
      rw [hC, Nat.mod_eq_of_lt hlt]
      intro hh
      rw [hh] at hx
      exact set_ne hj hvj hx.symm)
    rw [List.append_assoc, List.append_assoc] at this
    rw [List.append_assoc, List.append_assoc]
    exact this
  · have hj : q - 8 < s.length := by omega
    have e : (fr s).set q v = hd s ++ s.set (q - 8) v := by
      unfold fr
      rw [List.set_append, if_neg (by rw [hd_len]; omega), hd_len]
    have hvj : ¬ v = s[q - 8] := by
      intro hh
      apply hv
      have : (fr s)[q]? = s[q - 8]? := by
        unfold fr
        rw [List.getElem?_append_right (by rw [hd_len]; omega), hd_len]
      rw [List.getElem?_eq_getElem hq, List.getElem?_eq_getElem hj] at this
      injection this with this
      rw [this, hh]
    rw [e]
    refine fok_rec s (s.set (q - 8) v) r hs (by rw [List.length_set]) ?_
    intro hcs
    have d1 : s = s.take (q - 8) ++ s[q - 8] :: s.drop (q - 8 + 1) := by rw [← List.drop_eq_getElem_cons hj, List.take_append_drop]
    have d2 : s.set (q - 8) v = s.take (q - 8) ++ v :: s.drop (q - 8 + 1) := List.set_eq_take_append_cons_drop.trans (if_pos hj)
    have hcs' : cs ((be 4 s.length ++ s.take (q - 8)) ++ v :: s.drop (q - 8 + 1)) = cs ((be 4 s.length ++ s.take (q - 8)) ++ s[q - 8] :: s.drop (q - 8 + 1)) := by
      rw [List.append_assoc, List.append_assoc, ← d2, ← d1]; exact hcs
    exact hvj (cs_turned _ _ _ _ hcs')
theorem xor_ne (c d : UInt8) (h : ¬ d = 0) : ¬ c ^^^ d = c := by
  intro hh
  apply h
  have := congrArg (fun x => c ^^^ x) hh
  simp only [← UInt8.xor_assoc, UInt8.xor_self, UInt8.zero_xor] at this
  exact this
theorem val_xor (c d : UInt8) : Value.int .u8 (bits .xor .u8 (c.toNat : Int) (d.toNat : Int)) = .int .u8 ((c ^^^ d).toNat : Int) := by
  rw [u8_xor_nat _ _ (UInt8.toNat_lt c) (UInt8.toNat_lt d), UInt8.toNat_xor]
/-- what All reads, where a byte of the frame k was turned behind its length. -/
theorem falR_turned (l : List (List UInt8)) (k p : Nat) (d : UInt8) (hs : ∀ s ∈ l, s.length ≤ 4096) (h : k < l.length) (h1 : (encF (l.take k)).length + 4 ≤ p) (h2 : p < (encF (l.take (k + 1))).length) (hp : p < (encF l).length) (hd : ¬ d = 0) :
    falR ((encF l).set p ((encF l)[p] ^^^ d)) = (l.take k, (encF (l.take k)).length) := by
  have hst : ∀ s ∈ l.take k, s.length ≤ 4096 := fun s h => hs s (List.mem_of_mem_take h)
  have hlen : (encF (l.take (k + 1))).length = (encF (l.take k)).length + (fr l[k]).length := by rw [encF_take l k h, List.length_append]
  have hq : p - (encF (l.take k)).length < (fr l[k]).length := by omega
  rw [set_frames l k p _ h (by omega) h2]
  refine falR_stop _ _ hst (fok_turned l[k] _ _ _ (hs _ (List.getElem_mem h)) (by omega) hq ?_)
  have e : encF l = encF (l.take k) ++ (fr l[k] ++ encF (l.drop (k + 1))) := by
    rw [← List.append_assoc, ← encF_take l k h, ← encF_app, List.take_append_drop]
  have hc : (encF l)[p]? = (fr l[k])[p - (encF (l.take k)).length]? := by
    rw [e, List.getElem?_append_right (by omega), List.getElem?_append_left hq]
  rw [List.getElem?_eq_getElem hp, List.getElem?_eq_getElem hq] at hc
  injection hc with hc
  rw [hc]
  exact xor_ne _ _ hd
theorem strs_take {w : World} {B : Nat} {A : Option Addr} {l : List (List UInt8)} (h : Strs w B A l) (k : Nat) (hk : k ≤ l.length) : Strs w B A (l.take k) := by
  obtain ⟨V, C, h1, h2⟩ := h
  refine ⟨V, C, fun h0 => ?_, fun i bs hi => ?_⟩
  · obtain ⟨b, off, hA, hB, hc⟩ := h1 (by rw [List.length_take] at h0; omega)
    exact ⟨b, off, hA, hB, fun i bs hi => hc i bs (by rw [List.getElem?_take] at hi; split at hi; exact hi; cases hi)⟩
  · exact h2 i bs (by rw [List.getElem?_take] at hi; split at hi; exact hi; cases hi)
theorem encF_long (l : List (List UInt8)) : l.length ≤ (encF l).length := by
  induction l with
  | nil => simp
  | cons x l ih => rw [encF_cons, List.length_append, fr_len, List.length_cons]; omega
/-- a place in a row of the call's own. -/
theorem own_at {W : World} {base n c p : Nat} {A : Option Addr} {B : List UInt8} (h : OwnB W base 5 (.slice A n c) B) (hp : p < B.length) :
    ∃ g, A = some ⟨g, 0, none⟩ ∧ base ≤ g ∧ Row W g 5 B ∧ W.cell? ⟨g, p, none⟩ = some (.int .u8 (B[p].toNat : Int)) ∧ W.frozen? ⟨g, p, none⟩ = false ∧ n ≤ c ∧ c ≤ maxLen ∧ p < n := by
  obtain ⟨g, hA, hg1, _, hrow⟩ := h.rowO (by omega)
  obtain ⟨_, h2, h3, h4⟩ := own_open h
  exact ⟨g, hA, hg1, hrow, hrow.cell hp, hrow.frozen p, h2, h3, by omega⟩
/-- what All reads, where any byte of the frame k was turned: all ahead of it; and no more, if it stands behind the length. -/
theorem falR_any (l : List (List UInt8)) (k p : Nat) (d : UInt8) (hs : ∀ s ∈ l, s.length ≤ 4096) (h : k < l.length) (h1 : (encF (l.take k)).length ≤ p) (h2 : p < (encF (l.take (k + 1))).length) (hp : p < (encF l).length) (hd : ¬ d = 0) :
    ∃ mm E, falR ((encF l).set p ((encF l)[p] ^^^ d)) = (l.take k ++ mm, E) ∧ (encF (l.take k)).length ≤ E ∧ ((encF (l.take k)).length + 4 ≤ p → mm = [] ∧ E = (encF (l.take k)).length) := by
  have hst : ∀ s ∈ l.take k, s.length ≤ 4096 := fun s h => hs s (List.mem_of_mem_take h)
  by_cases h4 : (encF (l.take k)).length + 4 ≤ p
  · exact ⟨[], _, by rw [List.append_nil]; exact falR_turned l k p d hs h h4 h2 hp hd, Nat.le_refl _, fun _ => ⟨rfl, rfl⟩⟩
  · rw [set_frames l k p _ h h1 h2]
    obtain ⟨⟨mm, hm⟩, hE⟩ := falR_pre ((fr l[k]).set (p - (encF (l.take k)).length) ((encF l)[p] ^^^ d) ++ encF (l.drop (k + 1))) (l.take k) hst
    exact ⟨mm, _, Prod.ext hm rfl, hE, fun h => absurd h h4⟩
theorem take_app_take (l mm : List (List UInt8)) (i : Nat) (h : i ≤ l.length) : (l.take i ++ mm).take i = l.take i := by
  rw [List.take_append_of_le_length (by rw [List.length_take]; omega), List.take_of_length_le (by rw [List.length_take]; omega)]
end Go.Proofs.Ytnnhkanjneecjaa
