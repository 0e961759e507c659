import Derived.Test.YtjihbjjekhncaaaEvV
import Derived.Test.YtjihbjjekhncaaaBysM
namespace Go.Proofs.Ytjihbjjekhncaaa
open Go.RowKit
/-! events as fourteen cells. -/
structure Ev where
  o : Int
  s : Nat
  d : List Nat
  k : Nat
  n : Nat
  t : Int
  a : Int
  r : Nat
  f : Nat
theorem Ev.ext' {e g : Ev} (h1 : e.o = g.o) (h2 : e.s = g.s) (h3 : e.d = g.d) (h4 : e.k = g.k) (h5 : e.n = g.n) (h6 : e.t = g.t) (h7 : e.a = g.a) (h8 : e.r = g.r) (h9 : e.f = g.f) : e = g := by
  cases e; cases g; simp_all
def evL (e : Ev) : List Value := .int .i64 e.o :: .int .u64 (e.s : Int) :: (vecL e.d ++ [.int .u8 (e.k : Int), .int .u64 (e.n : Int), .int .i64 e.t, .int .i64 e.a, .int .u64 (e.r : Int), .int .u64 (e.f : Int)])
def evA (e : Ev) : Array Value := (evL e).toArray
def KE : List (Option IntKind) := [some .i64, some .u64, some .u64, some .u64, some .u64, some .u64, some .u64, some .u64, some .u8, some .u64, some .i64, some .i64, some .u64, some .u64]
theorem flatE : flatOK Try.prog 4 26 KE = true := by kernel_rfl
theorem keyE : Try.prog.keyTypeAt 4 26 = true := by kernel_rfl
theorem cellsE : KE.length = Try.prog.cellsOf 26 := by kernel_rfl
theorem infoE : (Try.prog.info? 26).map (·.size) = some 14 := by kernel_rfl
/-- the numbers are such as their kinds have. -/
structure Ev.ok (e : Ev) : Prop where
  d6 : e.d.length = 6
  o : (Lit.int .i64 e.o).wf = true
  t : (Lit.int .i64 e.t).wf = true
  a : (Lit.int .i64 e.a).wf = true
  s : e.s ≤ 18446744073709551615
  d : ∀ x ∈ e.d, x ≤ 18446744073709551615
  k : e.k ≤ 255
  n : e.n ≤ 18446744073709551615
  r : e.r ≤ 18446744073709551615
  f : e.f ≤ 18446744073709551615
theorem vecL_len (L : List Nat) : (vecL L).length = L.length := by simp [vecL]
theorem evL_len {e : Ev} (h : e.d.length = 6) : (evL e).length = 14 := by simp [evL, vecL_len, h]
theorem evA_size {e : Ev} (h : e.d.length = 6) : (evA e).size = 14 := by simp [evA, evL_len h]
theorem evL_inj {e g : Ev} (h : e.d.length = 6) (h' : g.d.length = 6) (he : evL e = evL g) : e = g := by
  unfold evL at he
  injection he with h1 he
  injection he with h2 he
  obtain ⟨h3, h4⟩ := List.append_inj he (by rw [vecL_len, vecL_len, h, h'])
  have h5 : e.d = g.d := by
    have : (vecL e.d).map (fun v => match v with | .int _ z => z.toNat | _ => 0) = (vecL g.d).map (fun v => match v with | .int _ z => z.toNat | _ => 0) := by rw [h3]
    simpa [vecL, Function.comp_def] using this
  simp only [List.cons.injEq, Value.int.injEq, true_and, and_true, Int.ofNat_inj] at h4
  simp only [Value.int.injEq, true_and] at h1 h2
  exact Ev.ext' h1 (by omega) h5 h4.1 h4.2.1 h4.2.2.1 h4.2.2.2.1 h4.2.2.2.2.1 h4.2.2.2.2.2
theorem wfn {x : Nat} (h : x ≤ 18446744073709551615) : (Lit.int .u64 (x : Int)).wf = true := by
  simp [Lit.wf, IntKind.min, IntKind.max, IntKind.signed, IntKind.bits]
  omega
theorem wfk {x : Nat} (h : x ≤ 255) : (Lit.int .u8 (x : Int)).wf = true := by
  simp [Lit.wf, IntKind.min, IntKind.max, IntKind.signed, IntKind.bits]
  omega
theorem six {L : List Nat} (h : L.length = 6) : ∃ a b c d e f, L = [a, b, c, d, e, f] := by
  match L, h with
  | [a, b, c, d, e, f], _ => exact ⟨a, b, c, d, e, f, rfl⟩
theorem Ev.ok.kinded {e : Ev} (h : e.ok) : Kinded KE (evL e) := by
  obtain ⟨d6, ho, ht, ha, hs, hd, hk, hn, hr, hf⟩ := h
  obtain ⟨o, s, d, k, n, t, a, r, f⟩ := e
  obtain ⟨x0, x1, x2, x3, x4, x5, rfl⟩ := six d6
  simp only [List.mem_cons, List.not_mem_nil, or_false, forall_eq_or_imp, forall_eq] at hd
  obtain ⟨y0, y1, y2, y3, y4, y5⟩ := hd
  have hk8 : (Lit.int .u8 (k : Int)).wf = true := wfk hk
  refine ⟨by simp [evL, KE, vecL], fun p q v hq hv => ?_⟩
  match p, hq, hv with
  | 0, hq, hv => injection hq with hq; injection hv with hv; subst hq hv; exact ⟨_, rfl, ho⟩
  | 1, hq, hv => injection hq with hq; injection hv with hv; subst hq hv; exact ⟨_, rfl, wfn hs⟩
  | 2, hq, hv => injection hq with hq; injection hv with hv; subst hq hv; exact ⟨_, rfl, wfn y0⟩
  | 3, hq, hv => injection hq with hq; injection hv with hv; subst hq hv; exact ⟨_, rfl, wfn y1⟩
  | 4, hq, hv => injection hq with hq; injection hv with hv; subst hq hv; exact ⟨_, rfl, wfn y2⟩
  | 5, hq, hv => injection hq with hq; injection hv with hv; subst hq hv; exact ⟨_, rfl, wfn y3⟩
  | 6, hq, hv => injection hq with hq; injection hv with hv; subst hq hv; exact ⟨_, rfl, wfn y4⟩
  | 7, hq, hv => injection hq with hq; injection hv with hv; subst hq hv; exact ⟨_, rfl, wfn y5⟩
  | 8, hq, hv => injection hq with hq; injection hv with hv; subst hq hv; exact ⟨_, rfl, hk8⟩
  | 9, hq, hv => injection hq with hq; injection hv with hv; subst hq hv; exact ⟨_, rfl, wfn hn⟩
  | 10, hq, hv => injection hq with hq; injection hv with hv; subst hq hv; exact ⟨_, rfl, ht⟩
  | 11, hq, hv => injection hq with hq; injection hv with hv; subst hq hv; exact ⟨_, rfl, ha⟩
  | 12, hq, hv => injection hq with hq; injection hv with hv; subst hq hv; exact ⟨_, rfl, wfn hr⟩
  | 13, hq, hv => injection hq with hq; injection hv with hv; subst hq hv; exact ⟨_, rfl, wfn hf⟩
  | p + 14, hq, _ => simp [KE] at hq
theorem ev_cells {cs : List Value} (h : Kinded KE cs) : ∃ e : Ev, cs = evL e ∧ e.ok := by
  have hl := h.1
  match cs, h, hl with
  | [v0, v1, v2, v3, v4, v5, v6, v7, v8, v9, v10, v11, v12, v13], h, _ =>
    obtain ⟨o, rfl, ho⟩ := h.2 0 (some .i64) v0 rfl rfl
    obtain ⟨s, rfl, hs⟩ := h.2 1 (some .u64) v1 rfl rfl
    obtain ⟨z2, rfl, w2⟩ := h.2 2 (some .u64) v2 rfl rfl
    obtain ⟨z3, rfl, w3⟩ := h.2 3 (some .u64) v3 rfl rfl
    obtain ⟨z4, rfl, w4⟩ := h.2 4 (some .u64) v4 rfl rfl
    obtain ⟨z5, rfl, w5⟩ := h.2 5 (some .u64) v5 rfl rfl
    obtain ⟨z6, rfl, w6⟩ := h.2 6 (some .u64) v6 rfl rfl
    obtain ⟨z7, rfl, w7⟩ := h.2 7 (some .u64) v7 rfl rfl
    obtain ⟨k, rfl, hk⟩ := h.2 8 (some .u8) v8 rfl rfl
    obtain ⟨n, rfl, hn⟩ := h.2 9 (some .u64) v9 rfl rfl
    obtain ⟨t, rfl, ht⟩ := h.2 10 (some .i64) v10 rfl rfl
    obtain ⟨a, rfl, ha⟩ := h.2 11 (some .i64) v11 rfl rfl
    obtain ⟨r, rfl, hr⟩ := h.2 12 (some .u64) v12 rfl rfl
    obtain ⟨f, rfl, hf⟩ := h.2 13 (some .u64) v13 rfl rfl
    obtain ⟨s, rfl, qs⟩ := wf_nat hs
    obtain ⟨z2, rfl, q2⟩ := wf_nat w2
    obtain ⟨z3, rfl, q3⟩ := wf_nat w3
    obtain ⟨z4, rfl, q4⟩ := wf_nat w4
    obtain ⟨z5, rfl, q5⟩ := wf_nat w5
    obtain ⟨z6, rfl, q6⟩ := wf_nat w6
    obtain ⟨z7, rfl, q7⟩ := wf_nat w7
    obtain ⟨n, rfl, qn⟩ := wf_nat hn
    obtain ⟨r, rfl, qr⟩ := wf_nat hr
    obtain ⟨f, rfl, qf⟩ := wf_nat hf
    obtain ⟨hk0, hk1⟩ := wf_u8 hk
    obtain ⟨k, rfl⟩ : ∃ m : Nat, k = (m : Int) := ⟨k.toNat, by omega⟩
    refine ⟨⟨o, s, [z2, z3, z4, z5, z6, z7], k, n, t, a, r, f⟩, rfl, rfl, ho, ht, ha, qs, ?_, by show k ≤ 255; omega, qn, qr, qf⟩
    simp only [List.mem_cons, List.not_mem_nil, or_false, forall_eq_or_imp, forall_eq]
    exact ⟨q2, q3, q4, q5, q6, q7⟩
/-- two events compared. -/
theorem ev_eq {e g : Ev} (h : e.ok) (h' : g.ok) (w : World) : ∃ r : Bool, (Op.equalIn 10000 26 (.agg (evA e)) (.agg (evA g))).run Try.prog w = .ok r w ∧ (r = true ↔ evL e = evL g) :=
  flat_eq 9996 4 26 KE (evL e) (evL g) flatE keyE h.kinded h'.kinded Try.underlying26 rfl cellsE w
theorem ev_same {e : Ev} (h : e.ok) (w : World) : (Op.equalIn 10000 26 (.agg (evA e)) (.agg (evA e))).run Try.prog w = .ok true w := by
  obtain ⟨r, hr, hi⟩ := ev_eq h h w
  rw [hr, hi.2 rfl]
theorem ev_diff {e g : Ev} (h : e.ok) (h' : g.ok) (hne : ¬ e = g) (w : World) : (Op.equalIn 10000 26 (.agg (evA e)) (.agg (evA g))).run Try.prog w = .ok false w := by
  obtain ⟨r, hr, hi⟩ := ev_eq h h' w
  rw [hr]
  cases r
  · rfl
  · exact absurd (evL_inj h.d6 h'.d6 (hi.1 rfl)) hne
set_option maxRecDepth 100000 in
theorem open_ev {H : Type} {enc : TypeId × Value → H} {w w' : World} {base b0 : Nat} {r : Reach} {sp : Nat → Bool} {held : Bool} {v : Value} {dd : DataW H} {ps : List MemPlace}
    (hv : Value.okWide Try.prog w' r b0 26 v) (h : DataW.Trod enc Try.prog w base sp held 26 v dd ps) : ∃ e : Ev, v = .agg (evA e) ∧ e.ok := by
  obtain ⟨cs, rfl, hk⟩ := flat_value 4 KE flatE Try.underlying26 rfl hv h
  obtain ⟨e, rfl, he⟩ := ev_cells hk
  exact ⟨e, rfl, he⟩
/-! a slice of events. -/
def Evs (w : World) (B : Nat) (A : Option Addr) (l : List Ev) : Prop :=
  0 < l.length → ∃ b off, A = some ⟨b, off, none⟩ ∧ b < B ∧ ∀ i (e : Ev), l[i]? = some e → w.rangeAt b (off + i * 14) (evL e)
theorem Evs.below {w w' : World} {B : Nat} {A : Option Addr} {l : List Ev} (h : Evs w B A l) (hb : Below B w w') : Evs w' B A l := fun h0 => by
  obtain ⟨b, off, hA, hB, hr⟩ := h h0
  exact ⟨b, off, hA, hB, fun i e hi j v hj => (hb.cell (p := ⟨b, off + i * 14 + j, none⟩) hB).trans (hr i e hi j v hj)⟩
theorem Evs.more {w : World} {B B' : Nat} {A : Option Addr} {l : List Ev} (h : Evs w B A l) (hB : B ≤ B') : Evs w B' A l := fun h0 => by
  obtain ⟨b, off, hA, hb, hr⟩ := h h0
  exact ⟨b, off, hA, by omega, hr⟩
theorem evs_cells (w : World) (b off : Nat) : ∀ n, (∀ i, i < n → ∃ cs, Kinded KE cs ∧ ∀ (j : Nat) (v : Value), cs[j]? = some v → w.cell? ⟨b, off + (i * 14 + j), none⟩ = some v) →
    ∃ l : List Ev, l.length = n ∧ (∀ p ∈ l, p.ok) ∧ ∀ i (s : Ev), l[i]? = some s → w.rangeAt b (off + i * 14) (evL s)
  | 0, _ => ⟨[], rfl, (fun L h => by cases h), (fun i L h => by simp at h)⟩
  | n + 1, h => by
    obtain ⟨l, h1, h2, h3⟩ := evs_cells w b off n (fun i hi => h i (by omega))
    obtain ⟨cs, hk, hc⟩ := h n (by omega)
    obtain ⟨s, rfl, hb⟩ := ev_cells hk
    refine ⟨l ++ [s], by simp [h1], fun p hp => ?_, fun i p hi => ?_⟩
    · rcases List.mem_append.1 hp with hp | hp
      · exact h2 p hp
      · rw [List.mem_singleton.1 hp]; exact hb
    · by_cases hin : i < n
      · rw [List.getElem?_append_left (by omega)] at hi
        exact h3 i p hi
      · rw [List.getElem?_append_right (by omega), h1] at hi
        have h0 : i - n = 0 := by
          by_cases h0 : i - n = 0
          · exact h0
          · rw [List.getElem?_eq_none (by simp; omega)] at hi; cases hi
        obtain rfl : i = n := by omega
        rw [h0] at hi
        injection hi with hi
        subst hi
        intro j v hj
        have := hc j v hj
        rwa [← Nat.add_assoc] at this
theorem open_evs {H : Type} {enc : TypeId × Value → H} {w : World} {sp : Nat → Bool} {held : Bool} {A : Option Addr} {len cap : Nat} {dd : DataW H} {ps : List MemPlace}
    (h : DataW.Trod enc Try.prog w 0 sp held 32 (.slice A len cap) dd ps) :
    len ≤ cap ∧ cap ≤ maxLen ∧ ∃ l : List Ev, len = l.length ∧ Evs w w.heap.size A l ∧ ∀ p ∈ l, p.ok := by
  obtain ⟨h1, h2, h3⟩ := flat_slice 4 KE Try.underlying32 flatE (by kernel_rfl) h
  refine ⟨h1, h2, ?_⟩
  rcases Nat.eq_zero_or_pos len with h0 | h0
  · exact ⟨[], h0, (fun h => absurd h (by simp)), (fun L h => by cases h)⟩
  · obtain ⟨⟨b, off, spot⟩, rfl, hc⟩ := h3 (by omega)
    have hs : spot = none := by
      obtain ⟨cs, hk, hcc⟩ := hc 0 h0
      obtain ⟨s, rfl, _⟩ := ev_cells hk
      have := hcc 0 _ rfl
      simp only [Nat.zero_mul, Nat.add_zero] at this
      simpa [Addr.add] using World.cell?_spot this
    subst hs
    have hadd : ∀ k, (⟨b, off, none⟩ : Addr).add k = ⟨b, off + k, none⟩ := fun k => Addr.add_mid b off k
    obtain ⟨l, hl, hb, hr⟩ := evs_cells w b off len (fun i hi => by
      obtain ⟨cs, hk, hcc⟩ := hc i hi
      exact ⟨cs, hk, fun j v hj => by have := hcc j v hj; rw [hadd] at this; exact this⟩)
    refine ⟨l, hl.symm, fun _ => ⟨b, off, rfl, ?_, hr⟩, hb⟩
    have hl0 : 0 < l.length := by omega
    have hr0 := hr 0 l[0] (List.getElem?_eq_getElem hl0)
    exact block_lt_of_cell (hr0 0 _ rfl)
end Go.Proofs.Ytjihbjjekhncaaa
