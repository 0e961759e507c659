import Derived.Test.YtkdmlpmjfnjnmaaSvu
/-! contracts and loops: what fits, what is told. -/
namespace Go.Proofs.Ytkdmlpmjfnjnmaa.Sv
open Go Go.RowKit
set_option linter.unusedVariables false
set_option linter.unusedSimpArgs false
variable {P : Program} {ρ : Ctx} {E : Env} {H : AH} {w : World}

mutual
/-- a (of memory) is b (in the order of names of a contract). -/
def fitA (ns : List (Option Nat)) : AV → AV → Prop
  | .top, _ => True
  | .gsl k n, .gsl j m => n = m ∧ ns[k]? = some (some j)
  | .gsl k n, .part j lo m => lo = 0 ∧ n = m ∧ ns[k]? = some (some j)
  | .gsl _ n, .nilSlice => n = 0
  | .gsl k n, .slice j off len cap ex => off = 0 ∧ n = len ∧ len ≤ cap ∧ ex = false ∧ ns[k]? = some (some j)
  | .ptr k o, .ptr j p => o = p ∧ ns[k]? = some (some j)
  | .slice k off len cap ex, .slice j off' len' cap' ex' => off = off' ∧ len = len' ∧ cap = cap' ∧ ex = ex' ∧ ns[k]? = some (some j)
  | .gptr k i o, .gptr j i' o' => i = i' ∧ o = o' ∧ ns[k]? = some (some j)
  | .map k, .map j => ns[k]? = some (some j)
  | .fn f a b, .fn g c d => f = g ∧ fitsA ns a c ∧ fitsA ns b d
  | .agg l, .agg m => fitsA ns l m
  | .tuple l, .tuple m => fitsA ns l m
  | .sint k x, .sint j y => k = j ∧ x = y
  | .sint k x, .int j y => k = j ∧ x = y
  | .data _ n _, .nilSlice => n = 0
  | .sbool b, .bool c => b = c
  | .unkI k, .sint j _ => k = j
  | .unkI k, .int j _ => k = j
  | .unkI k, .unkI j => k = j
  | b, a => a = b ∧ nf b = true
def fitsA (ns : List (Option Nat)) : List AV → List AV → Prop
  | [], [] => True
  | b :: l, a :: m => fitA ns b a ∧ fitsA ns l m
  | _, _ => False
end
def namesE (ns : List (Option Nat)) (E : Env) : Env := ⟨fun k => match ns[k]? with
  | some (some j) => E j
  | _ => none, E.fro⟩
theorem namesE_at {ns : List (Option Nat)} {k j : Nat} (h : ns[k]? = some (some j)) : namesE ns E k = E j := by simp [namesE, h]
mutual
theorem fitA_vr {ns : List (Option Nat)} : ∀ {b a : AV} {v : Value}, VR ρ E a v → fitA ns b a → VR ρ (namesE ns E) b v
  | b, a, v, hv, h => by
    unfold fitA at h
    split at h
    · exact .top v
    · obtain ⟨rfl, hk⟩ := h
      cases hv with
      | gsl _ _ cap r hr h1 h2 => exact .gsl _ _ cap r ((namesE_at hk).trans hr) h1 h2
      | gsl0 _ a => exact .gsl0 _ a
    · obtain ⟨rfl, rfl, hk⟩ := h
      cases hv with
      | part _ _ _ cap a r hr hc hq ha =>
        rw [Nat.zero_add] at hq
        rcases ha with rfl | rfl
        · obtain rfl := Nat.le_zero.1 hc
          exact .gsl0 _ _
        · rw [Nat.zero_mul]
          exact .gsl _ _ _ r ((namesE_at hk).trans hr) hc hq
    · subst h
      cases hv
      exact .gsl0 _ _
    · obtain ⟨rfl, rfl, hc, rfl, hk⟩ := h
      cases hv with
      | sliceG _ _ _ _ c' r hr h1 h2 => exact .gsl _ _ c' r ((namesE_at hk).trans hr) (by omega) (by omega)
    · obtain ⟨rfl, hk⟩ := h
      cases hv with
      | ptr _ _ r hr => exact .ptr _ _ r ((namesE_at hk).trans hr)
    · obtain ⟨rfl, rfl, rfl, rfl, hk⟩ := h
      cases hv with
      | sliceX _ _ _ _ r hr => exact .sliceX _ _ _ _ r ((namesE_at hk).trans hr)
      | sliceG _ _ _ _ c' r hr h1 h2 => exact .sliceG _ _ _ _ c' r ((namesE_at hk).trans hr) h1 h2
    · obtain ⟨rfl, rfl, hk⟩ := h
      cases hv with
      | gptr _ _ _ r hr => exact .gptr _ _ _ r ((namesE_at hk).trans hr)
    · cases hv with
      | map _ r hr => exact .map _ r ((namesE_at h).trans hr)
    · obtain ⟨rfl, h1, h2⟩ := h
      cases hv with
      | fn _ _ _ x y hx hy => exact .fn _ _ _ x y (fitsA_vr hx h1) (fitsA_vr hy h2)
    · cases hv with
      | agg _ vs hv => exact .agg _ vs (fitsA_vr hv h)
    · cases hv with
      | tuple _ vs hv => exact .tuple _ vs (fitsA_vr hv h)
    · obtain ⟨rfl, rfl⟩ := h
      cases hv
      exact .sint _ _
    · obtain ⟨rfl, rfl⟩ := h
      cases hv
      exact .sint _ _
    · subst h
      cases hv
      exact .dataN _ _
    · subst h
      cases hv
      exact .sbool _
    · subst h
      cases hv
      exact .unkI _ _
    · subst h
      cases hv
      exact .unkI _ _
    · subst h
      cases hv
      exact .unkI _ _
    · obtain ⟨rfl, hn⟩ := h
      exact VD.vra (E := namesE ns E) (hv.nf hn)
theorem fitsA_vr {ns : List (Option Nat)} : ∀ {l m : List AV} {vs : List Value}, VRs ρ E m vs → fitsA ns l m → VRs ρ (namesE ns E) l vs
  | [], [], vs, hv, h => by cases hv; exact .nil
  | b :: l, a :: m, vs, hv, h => by
    unfold fitsA at h
    cases hv with
    | cons _ v _ m' h1 h2 => exact .cons _ _ _ _ (fitA_vr h1 h.1) (fitsA_vr h2 h.2)
  | [], _ :: _, _, _, h => by simp [fitsA] at h
  | _ :: _, [], _, _, h => by simp [fitsA] at h
end
theorem fitsA_len {ns : List (Option Nat)} : ∀ {l m : List AV}, fitsA ns l m → l.length = m.length
  | [], [], _ => rfl
  | _ :: l, _ :: m, h => by
    unfold fitsA at h
    simp [fitsA_len h.2]
  | [], _ :: _, h => by simp [fitsA] at h
  | _ :: _, [], h => by simp [fitsA] at h
/-- a map's entries, each as it is told. -/
def fitsE (ns : List (Option Nat)) : List Ent → List Ent → Prop
  | [], [] => True
  | e :: l, a :: m => e.born = a.born ∧ fitA ns e.key a.key ∧ fitA ns e.val a.val ∧ fitsE ns l m
  | _, _ => False
theorem fitsE_ers {ns : List (Option Nat)} : ∀ {l m : List Ent} {ms : List MapEntry}, ERs ρ E m ms → fitsE ns l m → ERs ρ (namesE ns E) l ms
  | [], [], ms, hv, h => by cases hv; exact .nil
  | e :: l, a :: m, ms, hv, h => by
    unfold fitsE at h
    cases hv with
    | cons _ x _ m' h1 h2 h3 h4 => exact .cons _ _ _ _ (fitA_vr h1 h.2.1) (fitA_vr h2 h.2.2.1) (h.1.trans h3) (fitsE_ers h4 h.2.2.2)
  | [], _ :: _, _, _, h => by simp [fitsE] at h
  | _ :: _, [], _, _, h => by simp [fitsE] at h
/-- a block of memory is one of a contract. -/
def fitB (ns : List (Option Nat)) (H : AH) (o : Option Nat) (g : NewB) : Prop := match o, g with
  | some j, .cells gr cs => ∃ c cs', H.tr.get j = some (.cells c gr cs') ∧ fitsA ns cs cs'
  | some j, .seq z n f => (∃ m f', seqAt H j = some (z, m, f') ∧ n ≤ m ∧ ∀ i, i < n → f i = f' i ∧ nfs (f i) = true) ∨ ∃ c cs, H.tr.get j = some (.cells c (some z) cs) ∧ 0 < z ∧ n * z ≤ cs.length ∧ ∀ i, i < n → f i = (cs.drop (i * z)).take z ∧ nfs (f i) = true
  | some j, .ents es ck => nfE es = true ∧ ∃ c es', H.tr.get j = some (.map c es' ck) ∧ fitsE ns es es'
  | none, .seq _ n _ => n = 0
  | none, .cells none [] => True
  | _, _ => False
def fitsB (ns : List (Option Nat)) (H : AH) : List (Option Nat) → List NewB → Prop
  | [], [] => True
  | o :: r, g :: s => fitB ns H o g ∧ fitsB ns H r s
  | _, _ => False
structure Fits (ns : List (Option Nat)) (as : List AV) (H : AH) (bs : List AV) (G : List NewB) : Prop where
  vals : fitsA ns bs as
  blks : fitsB ns H ns G
  one : (ns.map fun o => o.bind H.clsOf).Pairwise fun a b => a = none ∨ a ≠ b
theorem fitsB_at {ns : List (Option Nat)} : ∀ {l : List (Option Nat)} {G : List NewB}, fitsB ns H l G → ∀ (k : Nat) o, l[k]? = some o → ∃ g, G[k]? = some g ∧ fitB ns H o g
  | [], [], _, k, o, h => by simp at h
  | o' :: l, g :: G, hf, 0, o, h => by
    unfold fitsB at hf
    simp at h; subst h
    exact ⟨g, rfl, hf.1⟩
  | o' :: l, g :: G, hf, k + 1, o, h => by
    unfold fitsB at hf
    exact fitsB_at hf.2 k o (by simpa using h)
  | [], _ :: _, h, _, _, _ => by simp [fitsB] at h
  | _ :: _, [], h, _, _, _ => by simp [fitsB] at h
theorem fitsB_len {ns : List (Option Nat)} : ∀ {l : List (Option Nat)} {G : List NewB}, fitsB ns H l G → l.length = G.length
  | [], [], _ => rfl
  | _ :: l, _ :: G, hf => by unfold fitsB at hf; simp [fitsB_len hf.2]
  | [], _ :: _, h => by simp [fitsB] at h
  | _ :: _, [], h => by simp [fitsB] at h
theorem fitB_cls {ns : List (Option Nat)} {j : Nat} {g : NewB} (h : fitB ns H (some j) g) : (H.clsOf j).isSome = true := by
  cases g with
  | cells gr cs =>
    obtain ⟨c, cs', h1, _⟩ := h
    simp [AH.clsOf, h1, Blk.cls]
  | seq z n f =>
    rcases h with ⟨m, f', h1, _⟩ | ⟨c, cs, h1, _⟩
    · rw [(seq_one h1).1]; rfl
    · simp [AH.clsOf, h1, Blk.cls]
  | map => cases h
  | iter _ _ _ => cases h
  | loop _ _ _ _ => cases h
  | ents es ck =>
    obtain ⟨_, c, es', h1, _⟩ := h
    simp [AH.clsOf, h1, Blk.cls]
theorem names_inv {ns : List (Option Nat)} {k : Nat} {r : RB} (h : namesE ns E k = some r) : ∃ j, ns[k]? = some (some j) ∧ E j = some r := by
  have h : (match ns[k]? with | some (some j) => E j | _ => none) = some r := h
  split at h
  · exact ⟨_, ‹_›, h⟩
  · cases h
theorem fits_relG (hR : Rel ρ E H w) {ns : List (Option Nat)} {as bs : List AV} {G : List NewB} (hf : Fits ns as H bs G) : RelG ρ (namesE ns E) G w := by
  refine ⟨fun k r hk => ?_, fun k r hk => ?_, fun k k' r r' hk hk' e => ?_, fun k r o hk hd => ?_, fun k g hg => ?_, fun i o hi => (hR.dat i o hi).1⟩
  · obtain ⟨j, h1, _⟩ := names_inv hk
    have := (List.getElem?_eq_some_iff.1 h1).1
    rw [← fitsB_len hf.blks]; exact this
  · obtain ⟨j, h1, h2⟩ := names_inv hk
    obtain ⟨g, h3, h4⟩ := fitsB_at hf.blks k _ h1
    obtain ⟨k1, kb, k2, k3⟩ := hR.blk j r h2
    refine ⟨k1, g, h3, ?_⟩
    cases g with
    | cells gr cs =>
      obtain ⟨c, cs', e1, e2⟩ := h4
      rw [e1] at k2; cases k2
      obtain ⟨c', elem, fr, g1, g2, g3, g4, g5, g6⟩ := k3
      have hl := fitsA_len e2
      exact ⟨c', elem, fr, g1, g2, g3, by omega, by rw [hl]; exact fitsA_vr g5 e2, g6⟩
    | seq z n f =>
      rcases h4 with ⟨m, f', e1, e2, e3⟩ | ⟨c, cs, e1, hz, hl, e3⟩
      rotate_left
      · rw [e1] at k2; cases k2
        obtain ⟨c', elem, fr, g1, g2, g3, g4, g5, g6⟩ := k3
        have hrow : ∀ i, i < n → i * z + z ≤ n * z := fun i hi => by
          have := Nat.mul_le_mul_right z (show i + 1 ≤ n from hi)
          rwa [Nat.succ_mul] at this
        refine ⟨c', elem, fr, g1, g2, g3, by omega, g6 z rfl, hz, fun i hi => ?_, fun i hi => ?_⟩
        · have := hrow i hi
          rw [(e3 i hi).1, List.length_take, List.length_drop]
          omega
        · have h5 := (g5.drop (i * z)).take z
          have := hrow i hi
          rw [List.drop_take, List.take_take, Nat.min_eq_left (by omega)] at h5
          have h6 := (e3 i hi).2
          rw [(e3 i hi).1] at h6 ⊢
          exact VDs.vra (E := namesE ns E) (h5.nf h6)
      obtain ⟨c', elem, fr, g1, g2, g3, g4, g5, g6, g7, g8⟩ := seq_rel hR e1 h2
      have hle : n * z ≤ m * z := Nat.mul_le_mul_right z e2
      refine ⟨c', elem, fr, g1, g2, g3, by omega, g5, g6, fun i hi => by rw [(e3 i hi).1]; exact g7 i (by omega), fun i hi => ?_⟩
      have h5 := g8 i (by omega)
      have h6 := (e3 i hi).2
      rw [(e3 i hi).1] at h6 ⊢
      exact VDs.vra (E := namesE ns E) (h5.nf h6)
    | map => cases h4
    | iter _ _ _ => cases h4
    | loop _ _ _ _ => cases h4
    | ents es ck =>
      obtain ⟨e0, c, es', e1, e2⟩ := h4
      rw [e1] at k2; cases k2
      obtain ⟨ms, g1, g2⟩ := k3
      exact ⟨ms, g1, fitsE_ers g2 e2⟩
  · obtain ⟨j, h1, h2⟩ := names_inv hk
    obtain ⟨j', h1', h2'⟩ := names_inv hk'
    obtain ⟨g, _, h4⟩ := fitsB_at hf.blks k _ h1
    obtain ⟨g', _, h4'⟩ := fitsB_at hf.blks k' _ h1'
    obtain ⟨c, hc⟩ := Option.isSome_iff_exists.1 (fitB_cls h4)
    obtain ⟨c', hc'⟩ := Option.isSome_iff_exists.1 (fitB_cls h4')
    have hcc := hR.inj j j' r r' c c' h2 h2' e hc hc'
    subst hcc
    have hm : (ns.map fun o => o.bind H.clsOf)[k]? = some (some c) := by simp [h1, hc]
    have hm' : (ns.map fun o => o.bind H.clsOf)[k']? = some (some c) := by simp [h1', hc']
    obtain ⟨l1, e1⟩ := List.getElem?_eq_some_iff.1 hm
    obtain ⟨l2, e2⟩ := List.getElem?_eq_some_iff.1 hm'
    rcases Nat.lt_trichotomy k k' with h | h | h
    · rcases List.pairwise_iff_getElem.1 hf.one k k' l1 l2 h with x | x
      · rw [e1] at x; cases x
      · rw [e1, e2] at x; exact absurd rfl x
    · exact h
    · rcases List.pairwise_iff_getElem.1 hf.one k' k l2 l1 h with x | x
      · rw [e2] at x; cases x
      · rw [e1, e2] at x; exact absurd rfl x
  · obtain ⟨j, h1, h2⟩ := names_inv hk
    obtain ⟨g, _, h4⟩ := fitsB_at hf.blks k _ h1
    obtain ⟨c, hc⟩ := Option.isSome_iff_exists.1 (fitB_cls h4)
    exact (hR.dat _ o hd).2 j r c h2 hc rfl
  · have hl := fitsB_len hf.blks
    have hlt := (List.getElem?_eq_some_iff.1 hg).1
    obtain ⟨g', h3, h4⟩ := fitsB_at hf.blks k _ (List.getElem?_eq_getElem (by omega))
    rw [hg] at h3; cases h3
    generalize ns[k]'(by omega) = o at h4
    cases g with
    | cells gr cs => trivial
    | seq z n f =>
      cases o with
      | some j =>
        rcases h4 with ⟨m, f', _, _, e3⟩ | ⟨c, cs, _, _, _, e3⟩
        · exact fun i hi => (e3 i hi).2
        · exact fun i hi => (e3 i hi).2
      | none =>
        have h4 : n = 0 := h4
        subst h4
        exact fun i hi => by omega
    | map => cases o <;> cases h4
    | iter _ _ _ => cases o <;> cases h4
    | loop _ _ _ _ => cases o <;> cases h4
    | ents es ck =>
      cases o with
      | none => cases h4
      | some j => exact h4.1

section
variable (H : AH) (fz : List Nat)
mutual
/-- what is told of a value of which the blocks fz are frozen. -/
inductive Ice : AV → AV → Prop
  | rows (z n m j : Nat) (g f : Nat → List AV) (hj : j ∈ fz) (hs : seqAt H j = some (z, m, f)) (hn : n ≤ m) (hr : ∀ i, i < n → Ices (g i) (f i)) : Ice (.data z n g) (.gsl j n)
  | lit (z n off cap j c : Nat) (gr : Option Nat) (ex : Bool) (cs : List AV) (g : Nat → List AV) (hj : j ∈ fz) (hs : H.tr.get j = some (.cells c gr cs)) (hn : n ≤ cap) (hl : off + n * z ≤ cs.length) (hr : ∀ i, i < n → Ices (g i) ((cs.drop (off + i * z)).take z)) : Ice (.data z n g) (.slice j off n cap ex)
  | cell (j c : Nat) (gr : Option Nat) (ds cs : List AV) (hj : j ∈ fz) (hs : H.tr.get j = some (.cells c gr cs)) (hr : Ices ds cs) : Ice (.dptr ds) (.ptr j 0)
  | nil (z : Nat) (g : Nat → List AV) : Ice (.data z 0 g) .nilSlice
  | flat (a : AV) (h : nf a = true) : Ice a a
  | sint (k : IntKind) (x : Int) : Ice (.sint k x) (.int k x)
inductive Ices : List AV → List AV → Prop
  | nil : Ices [] []
  | cons (d a : AV) (l m : List AV) (h : Ice d a) (t : Ices l m) : Ices (d :: l) (a :: m)
end
end
variable {fz : List Nat}
theorem Ices.len : ∀ {l m : List AV}, Ices H fz l m → l.length = m.length
  | [], [], _ => rfl
  | _ :: l, _ :: m, .cons _ _ _ _ _ t => by simp [Ices.len t]
theorem Ices.refl : ∀ {l : List AV}, nfs l = true → Ices H fz l l
  | [], _ => .nil
  | a :: l, h => by
    simp only [nfs, Bool.and_eq_true] at h
    exact .cons _ _ _ _ (.flat a h.1) (Ices.refl h.2)
theorem Ice.nf {d a : AV} (h : Ice H fz d a) : Sv.nf d = true := by
  cases h <;> first | rfl | assumption
theorem Ices.nfs : ∀ {l m : List AV}, Ices H fz l m → Sv.nfs l = true
  | [], [], _ => rfl
  | _ :: l, _ :: m, .cons _ _ _ _ h t => by simp [Sv.nfs, h.nf, Ices.nfs t]
mutual
theorem Ice.sound (hR : Rel ρ E H w) {E1 : Env} (hZ : ∀ j ∈ fz, ∀ (r : RB) (c : Array Value) (elem : TypeId) (fr : Nat × Nat), E j = some r → w.heap[r.blk]? = some (.cells c elem fr) → (H.clsOf j).isSome = true → (E1.all ρ).dat r.blk = some (.cells c elem fr))
    (hsub : ∀ i o, (E.all ρ).dat i = some o → (E1.all ρ).dat i = some o) : ∀ {d a : AV} {v : Value}, Ice H fz d a → VR ρ E a v → VD (E1.all ρ) d v
  | _, _, _, .rows z n m j g f hj hs hn hr, hv => by
    cases hv with
    | gsl _ _ cap r hb hc hq =>
      obtain ⟨c, elem, fr, q1, q2, q3, q4, q5, q6, q7, q8⟩ := seq_rel hR hs hb
      have hle : n * z ≤ m * z := Nat.mul_le_mul_right z hn
      exact .data z n g r.blk 0 cap c elem fr (hZ j hj r c elem fr hb q1 (by rw [(seq_one hs).1]; rfl)) hc (by omega) (fun i hi => by rw [(hr i hi).len]; exact q7 i (by omega)) fun i hi => by
        rw [Nat.zero_add]
        exact Ices.sound hR hZ hsub (hr i hi) (q8 i (by omega))
    | gsl0 _ a =>
      cases a with
      | none => exact .dataN _ _
      | some a => exact .data0 _ _ _ _
  | _, _, v, .lit z n off cap j c gr ex cs g hj hs hn hl hr, hv => by
    have hr' : ∃ r c', v = .slice (some ⟨r.blk, off, none⟩) n c' ∧ n ≤ c' ∧ E j = some r := by
      cases hv with
      | sliceX _ _ _ _ r h => exact ⟨r, _, rfl, hn, h⟩
      | sliceG _ _ _ _ c' r h hc _ => exact ⟨r, _, rfl, by omega, h⟩
    obtain ⟨r, c', rfl, hc', hb⟩ := hr'
    obtain ⟨k1, kb, k2, k3⟩ := hR.blk j r hb
    rw [hs] at k2; cases k2
    obtain ⟨ca, elem, fr, g1, g2, g3, g4, g5, g6⟩ := k3
    have hrow : ∀ i, i < n → i * z + z ≤ n * z := fun i hi => by
      have := Nat.mul_le_mul_right z (show i + 1 ≤ n from hi)
      rwa [Nat.succ_mul] at this
    refine .data z n g r.blk off c' ca elem fr (hZ j hj r ca elem fr hb g1 (by simp [AH.clsOf, hs, Blk.cls])) hc' (by omega) (fun i hi => ?_) fun i hi => ?_
    · rw [(hr i hi).len]
      have := hrow i hi
      simp; omega
    · have h5 := (g5.drop (off + i * z)).take z
      have := hrow i hi
      rw [List.drop_take, List.take_take, Nat.min_eq_left (by omega)] at h5
      exact Ices.sound hR hZ hsub (hr i hi) h5
  | _, _, _, .cell j c gr ds cs hj hs hr, hv => by
    cases hv with
    | ptr _ _ r hb =>
      obtain ⟨k1, kb, k2, k3⟩ := hR.blk j r hb
      rw [hs] at k2; cases k2
      obtain ⟨ca, elem, fr, g1, g2, g3, g4, g5, g6⟩ := k3
      refine .dptr ds r.blk 0 ca elem fr (hZ j hj r ca elem fr hb g1 (by simp [AH.clsOf, hs, Blk.cls])) (by rw [hr.len]; omega) ?_
      rw [List.drop_zero, hr.len]
      exact Ices.sound hR hZ hsub hr g5
  | _, _, _, .nil z g, hv => by
    cases hv
    exact .dataN _ _
  | _, _, _, .flat a h, hv => (VR.nf hv h).ctx hsub
  | _, _, _, .sint k x, hv => by
    cases hv
    exact .sint _ _
theorem Ices.sound (hR : Rel ρ E H w) {E1 : Env} (hZ : ∀ j ∈ fz, ∀ (r : RB) (c : Array Value) (elem : TypeId) (fr : Nat × Nat), E j = some r → w.heap[r.blk]? = some (.cells c elem fr) → (H.clsOf j).isSome = true → (E1.all ρ).dat r.blk = some (.cells c elem fr))
    (hsub : ∀ i o, (E.all ρ).dat i = some o → (E1.all ρ).dat i = some o) : ∀ {l m : List AV} {vs : List Value}, Ices H fz l m → VRs ρ E m vs → VDs (E1.all ρ) l vs
  | _, _, _, .nil, hv => by cases hv; exact .nil
  | _, _, _, .cons d a l m h t, hv => by
    cases hv with
    | cons _ v _ _ h1 h2 => exact .cons _ _ _ _ (Ice.sound hR hZ hsub h h1) (Ices.sound hR hZ hsub t h2)
end
mutual
/-- what is told of a value behind a freeze: as it was told ahead of it, or frozen. -/
def zA (H : AH) (fz : List Nat) (ns : List (Option Nat)) : AV → AV → Prop
  | .tuple l, .tuple m => zsA H fz ns l m
  | .agg l, .agg m => zsA H fz ns l m
  | b, a => fitA ns b a ∨ Ice H fz b a
def zsA (H : AH) (fz : List Nat) (ns : List (Option Nat)) : List AV → List AV → Prop
  | [], [] => True
  | b :: l, a :: m => zA H fz ns b a ∧ zsA H fz ns l m
  | _, _ => False
end
def zB (H : AH) (fz : List Nat) (ns : List (Option Nat)) (o : Option Nat) (g : NewB) : Prop := match o, g with
  | some j, .cells gr cs => ∃ c cs', H.tr.get j = some (.cells c gr cs') ∧ zsA H fz ns cs cs'
  | some j, .seq z n f => (∃ m f', seqAt H j = some (z, m, f') ∧ n ≤ m ∧ ∀ i, i < n → Ices H fz (f i) (f' i)) ∨ ∃ c cs, H.tr.get j = some (.cells c (some z) cs) ∧ 0 < z ∧ n * z ≤ cs.length ∧ ∀ i, i < n → Ices H fz (f i) ((cs.drop (i * z)).take z)
  | some j, .ents es ck => nfE es = true ∧ ∃ c es', H.tr.get j = some (.map c es' ck) ∧ fitsE ns es es'
  | none, .seq _ n _ => n = 0
  | none, .cells none [] => True
  | _, _ => False
def zsB (H : AH) (fz : List Nat) (ns : List (Option Nat)) : List (Option Nat) → List NewB → Prop
  | [], [] => True
  | o :: r, g :: s => zB H fz ns o g ∧ zsB H fz ns r s
  | _, _ => False
structure FitsZ (fz : List Nat) (ns : List (Option Nat)) (as : List AV) (H : AH) (bs : List AV) (G : List NewB) : Prop where
  vals : zsA H fz ns bs as
  blks : zsB H fz ns ns G
  one : ((ns ++ fz.map some).map fun o => o.bind H.clsOf).Pairwise fun a b => a = none ∨ a ≠ b
mutual
theorem zA_of {ns : List (Option Nat)} : ∀ {b a : AV}, fitA ns b a → zA H fz ns b a
  | b, a, h => by
    unfold zA
    split
    · unfold fitA at h; exact zsA_of h
    · unfold fitA at h; exact zsA_of h
    · exact .inl h
theorem zsA_of {ns : List (Option Nat)} : ∀ {l m : List AV}, fitsA ns l m → zsA H fz ns l m
  | [], [], _ => by unfold zsA; trivial
  | _ :: l, _ :: m, h => by
    unfold fitsA at h
    unfold zsA
    exact ⟨zA_of h.1, zsA_of h.2⟩
  | [], _ :: _, h => by simp [fitsA] at h
  | _ :: _, [], h => by simp [fitsA] at h
end
theorem zsA_len {ns : List (Option Nat)} : ∀ {l m : List AV}, zsA H fz ns l m → l.length = m.length
  | [], [], _ => rfl
  | _ :: l, _ :: m, h => by unfold zsA at h; simp [zsA_len h.2]
  | [], _ :: _, h => by simp [zsA] at h
  | _ :: _, [], h => by simp [zsA] at h
theorem zB_of {ns : List (Option Nat)} {o : Option Nat} {g : NewB} (h : fitB ns H o g) : zB H fz ns o g := by
  cases o with
  | none =>
    cases g with
    | cells gr cs => cases gr <;> cases cs <;> first | exact h | (cases h; done)
    | _ => first | exact h | (cases h; done)
  | some j =>
    cases g with
    | cells gr cs => obtain ⟨c, cs', h1, h2⟩ := h; exact ⟨c, cs', h1, zsA_of h2⟩
    | seq z n f =>
      rcases h with ⟨m, f', h1, h2, h3⟩ | ⟨c, cs, h1, h2, h3, h4⟩
      · exact .inl ⟨m, f', h1, h2, fun i hi => by rw [← (h3 i hi).1]; exact Ices.refl (h3 i hi).2⟩
      · exact .inr ⟨c, cs, h1, h2, h3, fun i hi => by rw [← (h4 i hi).1]; exact Ices.refl (h4 i hi).2⟩
    | map => cases h
    | iter _ _ _ => cases h
    | loop _ _ _ _ => cases h
    | ents es ck => exact h
theorem zsB_of {ns : List (Option Nat)} : ∀ {l : List (Option Nat)} {G : List NewB}, fitsB ns H l G → zsB H fz ns l G
  | [], [], _ => trivial
  | _ :: l, _ :: G, h => by
    unfold fitsB at h
    exact ⟨zB_of h.1, zsB_of h.2⟩
  | [], _ :: _, h => by simp [fitsB] at h
  | _ :: _, [], h => by simp [fitsB] at h
theorem Fits.z {ns : List (Option Nat)} {as bs : List AV} {G : List NewB} (h : Fits ns as H bs G) : FitsZ [] ns as H bs G :=
  ⟨zsA_of h.vals, zsB_of h.blks, by rw [List.map_nil, List.append_nil]; exact h.one⟩
theorem zsB_at {ns : List (Option Nat)} : ∀ {l : List (Option Nat)} {G : List NewB}, zsB H fz ns l G → ∀ (k : Nat) o, l[k]? = some o → ∃ g, G[k]? = some g ∧ zB H fz ns o g
  | [], [], _, k, o, h => by simp at h
  | o' :: l, g :: G, hf, 0, o, h => by
    simp at h; subst h
    exact ⟨g, rfl, hf.1⟩
  | o' :: l, g :: G, hf, k + 1, o, h => zsB_at hf.2 k o (by simpa using h)
  | [], _ :: _, h, _, _, _ => by cases h
  | _ :: _, [], h, _, _, _ => by cases h
theorem zsB_len {ns : List (Option Nat)} : ∀ {l : List (Option Nat)} {G : List NewB}, zsB H fz ns l G → l.length = G.length
  | [], [], _ => rfl
  | _ :: l, _ :: G, hf => by simp [zsB_len hf.2]
  | [], _ :: _, h => by cases h
  | _ :: _, [], h => by cases h
theorem zB_cls {ns : List (Option Nat)} {j : Nat} {g : NewB} (h : zB H fz ns (some j) g) : (H.clsOf j).isSome = true := by
  cases g with
  | cells gr cs =>
    obtain ⟨c, cs', h1, _⟩ := h
    simp [AH.clsOf, h1, Blk.cls]
  | seq z n f =>
    rcases h with ⟨m, f', h1, _⟩ | ⟨c, cs, h1, _⟩
    · rw [(seq_one h1).1]; rfl
    · simp [AH.clsOf, h1, Blk.cls]
  | map => cases h
  | iter _ _ _ => cases h
  | loop _ _ _ _ => cases h
  | ents es ck =>
    obtain ⟨_, c, es', h1, _⟩ := h
    simp [AH.clsOf, h1, Blk.cls]
theorem ERs.sub {ρ' : Ctx} (ha : ρ'.atoms = ρ.atoms) {E E' : Env} (hE : ∀ b r, E b = some r → E' b = some r) (hf : ∀ i o, (E.all ρ').dat i = some o → (E'.all ρ).dat i = some o) {l : List Ent} {m : List MapEntry} (h : ERs ρ' E l m) : ERs ρ E' l m := by
  induction h with
  | nil => exact .nil
  | cons e m l r hk hv hb t ih => exact .cons _ _ _ _ (hk.sub ha hE hf) (hv.sub ha hE hf) hb ih
theorem BR.sub {ρ' : Ctx} (ha : ρ'.atoms = ρ.atoms) {E E' : Env} (hE : ∀ b r, E b = some r → E' b = some r) (hf : ∀ i o, (E.all ρ').dat i = some o → (E'.all ρ).dat i = some o) {r : RB} {k : Blk} {o : Option Obj} (h : BR ρ' E r k o) : BR ρ E' r k o := by
  cases k with
  | cells c g cs =>
    obtain ⟨c', elem, fr, h1, h2, h3, h4, h5, h6⟩ := h
    exact ⟨c', elem, fr, h1, h2, h3, h4, h5.sub ha hE hf, h6⟩
  | map c es ck =>
    obtain ⟨en, h1, h2⟩ := h
    exact ⟨en, h1, h2.sub ha hE hf⟩
  | iter c m s l st =>
    obtain ⟨m', h1, h2, h3⟩ := h
    exact ⟨m', h1, h2, fun b hb => by obtain ⟨r, hr, e⟩ := h3 b hb; exact ⟨r, hE _ _ hr, e⟩⟩
  | loop c st pd t ps as bd =>
    obtain ⟨l, h1, h2, h3, h4, h5⟩ := h
    exact ⟨l, h1, h2, h3, h4.sub ha hE hf, h5⟩
  | dead => trivial
  | seq c z n f =>
    obtain ⟨c', elem, fr, h1, h2, h3, h4, h5, h6, h7, h9⟩ := h
    exact ⟨c', elem, fr, h1, h2, h3, h4, h5, h6, h7, fun i hi => (h9 i hi).sub ha hE hf⟩
mutual
theorem zA_vr {ns : List (Option Nat)} {E1 : Env} (h1 : ∀ {b a : AV} {v : Value}, VR ρ E a v → fitA ns b a → VR ρ E1 b v) (h2 : ∀ {b a : AV} {v : Value}, VR ρ E a v → Ice H fz b a → VR ρ E1 b v) : ∀ {b a : AV} {v : Value}, VR ρ E a v → zA H fz ns b a → VR ρ E1 b v
  | b, a, v, hv, h => by
    unfold zA at h
    split at h
    · cases hv with
      | tuple _ vs hv => exact .tuple _ vs (zsA_vr h1 h2 hv h)
    · cases hv with
      | agg _ vs hv => exact .agg _ vs (zsA_vr h1 h2 hv h)
    · rcases h with h | h
      · exact h1 hv h
      · exact h2 hv h
theorem zsA_vr {ns : List (Option Nat)} {E1 : Env} (h1 : ∀ {b a : AV} {v : Value}, VR ρ E a v → fitA ns b a → VR ρ E1 b v) (h2 : ∀ {b a : AV} {v : Value}, VR ρ E a v → Ice H fz b a → VR ρ E1 b v) : ∀ {l m : List AV} {vs : List Value}, VRs ρ E m vs → zsA H fz ns l m → VRs ρ E1 l vs
  | [], [], vs, hv, h => by cases hv; exact .nil
  | b :: l, a :: m, vs, hv, h => by
    unfold zsA at h
    cases hv with
    | cons _ v _ m' g1 g2 => exact .cons _ _ _ _ (zA_vr h1 h2 g1 h.1) (zsA_vr h1 h2 g2 h.2)
  | [], _ :: _, _, _, h => by simp [zsA] at h
  | _ :: _, [], _, _, h => by simp [zsA] at h
end
theorem fitsZ_head (hR : Rel ρ E H w) {ns : List (Option Nat)} {as bs : List AV} {G : List NewB} (hf : FitsZ fz ns as H bs G) {vs : List Value} (hV : VRs ρ E as vs) :
    ∃ E1 : Env, RelG ρ E1 G w ∧ VRs ρ E1 bs vs ∧ (∀ b r, E1 b = some r → ∃ b', E b' = some r) ∧ (∀ k, E1 k = namesE ns E k) ∧ (∀ i q, E.fro i = some q → E1.fro i = some q) ∧ ∀ i q, E1.fro i = some q → E.fro i = some q ∨ ∃ b r, E b = some r ∧ r.blk = i := by
  classical
  let fro' : Nat → Option FB := fun i => match E.fro i with
    | some q => some q
    | none => if (∃ j ∈ fz, ∃ r, E j = some r ∧ r.blk = i ∧ (H.clsOf j).isSome = true) then (match w.heap[i]? with | some (.cells c e fr) => some ⟨c, e, fr⟩ | _ => none) else none
  let E1 : Env := ⟨(namesE ns E).nm, fro'⟩
  have hsub : ∀ i o, (E.all ρ).dat i = some o → (E1.all ρ).dat i = some o := all_mono fun i q h => by
    show (match E.fro i with | some q => some q | none => _) = some q
    rw [h]
  have hcase : ∀ i o, (E1.all ρ).dat i = some o → (E.all ρ).dat i = some o ∨ ((∃ j ∈ fz, ∃ r, E j = some r ∧ r.blk = i ∧ (H.clsOf j).isSome = true) ∧ w.heap[i]? = some o) := fun i o h => by
    rcases all_cases h with h | ⟨h0, q, h, rfl⟩
    · exact .inl (all_in i o h)
    · have h : (match E.fro i with
        | some q => some q
        | none => if (∃ j ∈ fz, ∃ r, E j = some r ∧ r.blk = i ∧ (H.clsOf j).isSome = true) then (match w.heap[i]? with | some (.cells c e fr) => some ⟨c, e, fr⟩ | _ => none) else none) = some q := by assumption
      split at h
      · rename_i q' hq
        cases h
        exact .inl (all_of h0 hq)
      · split at h
        · rename_i hj
          split at h
          · rename_i hw
            cases h
            exact .inr ⟨hj, hw⟩
          · cases h
        · cases h
  have hZ : ∀ j ∈ fz, ∀ (r : RB) (c : Array Value) (elem : TypeId) (fr : Nat × Nat), E j = some r → w.heap[r.blk]? = some (.cells c elem fr) → (H.clsOf j).isSome = true → (E1.all ρ).dat r.blk = some (.cells c elem fr) := fun j hj r c elem fr hb hw hc => by
    cases h1 : ρ.dat r.blk with
    | some o => exact absurd rfl ((hR.dat _ o (all_in _ o h1)).2 j r _ hb (Option.isSome_iff_exists.1 hc).choose_spec)
    | none =>
      cases h2 : E.fro r.blk with
      | some q => exact absurd rfl ((hR.dat _ _ (all_of h1 h2)).2 j r _ hb (Option.isSome_iff_exists.1 hc).choose_spec)
      | none =>
        refine all_of (E := E1) (q := ⟨c, elem, fr⟩) h1 ?_
        show (match E.fro r.blk with | some q => some q | none => _) = _
        rw [h2]
        show (if (∃ j ∈ fz, ∃ r', E j = some r' ∧ r'.blk = r.blk ∧ (H.clsOf j).isSome = true) then _ else _) = _
        rw [if_pos ⟨j, hj, r, hb, rfl, hc⟩, hw]
  have hAs : ∀ {l m : List AV} {vs : List Value}, VRs ρ E m vs → zsA H fz ns l m → VRs ρ E1 l vs := zsA_vr (fun hv h => VR.sub (ρ := ρ) (E := namesE ns E) (E' := E1) rfl (fun _ _ h => h) hsub (fitA_vr hv h)) (fun hv h => (h.sound hR hZ hsub hv).vra)
  obtain ⟨hone1, _, hone2⟩ := List.pairwise_append.1 (by have := hf.one; rw [List.map_append] at this; exact this)
  refine ⟨E1, ⟨fun k r hk => ?_, fun k r hk => ?_, fun k k' r r' hk hk' e => ?_, fun k r o hk hd => ?_, fun k g hg => ?_, fun i o hi => ?_⟩, hAs hV hf.vals, fun b r hb => by obtain ⟨j, _, hj⟩ := names_inv (ns := ns) (E := E) hb; exact ⟨j, hj⟩, fun _ => rfl, fun i q h => by
    show (match E.fro i with | some q => some q | none => _) = some q
    rw [h], fun i q h => by
    have h : (match E.fro i with
      | some q => some q
      | none => if (∃ j ∈ fz, ∃ r, E j = some r ∧ r.blk = i ∧ (H.clsOf j).isSome = true) then (match w.heap[i]? with | some (.cells c e fr) => some ⟨c, e, fr⟩ | _ => none) else none) = some q := h
    split at h
    · rename_i q' hq
      exact .inl (hq.trans h)
    · split at h
      · rename_i hj
        obtain ⟨j, _, r, hr, e, _⟩ := hj
        exact .inr ⟨j, r, hr, e⟩
      · cases h⟩
  · obtain ⟨j, h1, _⟩ := names_inv (ns := ns) (E := E) hk
    have := (List.getElem?_eq_some_iff.1 h1).1
    rw [← zsB_len hf.blks]; exact this
  · obtain ⟨j, h1, h2⟩ := names_inv (ns := ns) (E := E) hk
    obtain ⟨g, h3, h4⟩ := zsB_at hf.blks k _ h1
    obtain ⟨k1, kb, k2, k3⟩ := hR.blk j r h2
    refine ⟨k1, g, h3, ?_⟩
    cases g with
    | cells gr cs =>
      obtain ⟨c, cs', e1, e2⟩ := h4
      rw [e1] at k2; cases k2
      obtain ⟨c', elem, fr, g1, g2, g3, g4, g5, g6⟩ := k3
      have hl := zsA_len e2
      exact ⟨c', elem, fr, g1, g2, g3, by omega, by rw [hl]; exact hAs g5 e2, g6⟩
    | seq z n f =>
      rcases h4 with ⟨m, f', e1, e2, e3⟩ | ⟨c, cs, e1, hz, hl, e3⟩
      rotate_left
      · rw [e1] at k2; cases k2
        obtain ⟨c', elem, fr, g1, g2, g3, g4, g5, g6⟩ := k3
        have hrow : ∀ i, i < n → i * z + z ≤ n * z := fun i hi => by
          have := Nat.mul_le_mul_right z (show i + 1 ≤ n from hi)
          rwa [Nat.succ_mul] at this
        refine ⟨c', elem, fr, g1, g2, g3, by omega, g6 z rfl, hz, fun i hi => ?_, fun i hi => ?_⟩
        · have := hrow i hi
          rw [(e3 i hi).len, List.length_take, List.length_drop]
          omega
        · have h5 := (g5.drop (i * z)).take z
          have := hrow i hi
          rw [List.drop_take, List.take_take, Nat.min_eq_left (by omega)] at h5
          exact VDs.vra ((e3 i hi).sound hR hZ hsub h5)
      obtain ⟨c', elem, fr, g1, g2, g3, g4, g5, g6, g7, g8⟩ := seq_rel hR e1 h2
      have hle : n * z ≤ m * z := Nat.mul_le_mul_right z e2
      exact ⟨c', elem, fr, g1, g2, g3, by omega, g5, g6, fun i hi => by rw [(e3 i hi).len]; exact g7 i (by omega), fun i hi => VDs.vra ((e3 i hi).sound hR hZ hsub (g8 i (by omega)))⟩
    | map => cases h4
    | iter _ _ _ => cases h4
    | loop _ _ _ _ => cases h4
    | ents es ck =>
      obtain ⟨e0, c, es', e1, e2⟩ := h4
      rw [e1] at k2; cases k2
      obtain ⟨ms, g1, g2⟩ := k3
      exact ⟨ms, g1, ERs.sub (ρ := ρ) (E := namesE ns E) (E' := E1) rfl (fun _ _ h => h) hsub (fitsE_ers g2 e2)⟩
  · obtain ⟨j, h1, h2⟩ := names_inv (ns := ns) (E := E) hk
    obtain ⟨j', h1', h2'⟩ := names_inv (ns := ns) (E := E) hk'
    obtain ⟨g, _, h4⟩ := zsB_at hf.blks k _ h1
    obtain ⟨g', _, h4'⟩ := zsB_at hf.blks k' _ h1'
    obtain ⟨c, hc⟩ := Option.isSome_iff_exists.1 (zB_cls h4)
    obtain ⟨c', hc'⟩ := Option.isSome_iff_exists.1 (zB_cls h4')
    have hcc := hR.inj j j' r r' c c' h2 h2' e hc hc'
    subst hcc
    have hm : (ns.map fun o => o.bind H.clsOf)[k]? = some (some c) := by simp [h1, hc]
    have hm' : (ns.map fun o => o.bind H.clsOf)[k']? = some (some c) := by simp [h1', hc']
    obtain ⟨l1, e1⟩ := List.getElem?_eq_some_iff.1 hm
    obtain ⟨l2, e2⟩ := List.getElem?_eq_some_iff.1 hm'
    rcases Nat.lt_trichotomy k k' with h | h | h
    · rcases List.pairwise_iff_getElem.1 hone1 k k' l1 l2 h with x | x
      · rw [e1] at x; cases x
      · rw [e1, e2] at x; exact absurd rfl x
    · exact h
    · rcases List.pairwise_iff_getElem.1 hone1 k' k l2 l1 h with x | x
      · rw [e2] at x; cases x
      · rw [e1, e2] at x; exact absurd rfl x
  · obtain ⟨j, h1, h2⟩ := names_inv (ns := ns) (E := E) hk
    rcases hcase _ o hd with hd | ⟨⟨j2, hj2, r2, hr2, er, hc2⟩, _⟩
    · obtain ⟨g, _, h4⟩ := zsB_at hf.blks k _ h1
      obtain ⟨c, hc⟩ := Option.isSome_iff_exists.1 (zB_cls h4)
      exact (hR.dat _ o hd).2 j r c h2 hc rfl
    · obtain ⟨g, _, h4⟩ := zsB_at hf.blks k _ h1
      obtain ⟨c, hc⟩ := Option.isSome_iff_exists.1 (zB_cls h4)
      obtain ⟨c2, hc2⟩ := Option.isSome_iff_exists.1 hc2
      have hcc := hR.inj j2 j r2 r c2 c hr2 h2 er hc2 hc
      subst hcc
      have hm : some c2 ∈ ns.map fun o => o.bind H.clsOf := List.mem_map.2 ⟨some j, List.mem_of_getElem? h1, hc⟩
      have hm2 : some c2 ∈ (fz.map some).map fun o => o.bind H.clsOf := List.mem_map.2 ⟨some j2, List.mem_map.2 ⟨j2, hj2, rfl⟩, hc2⟩
      rcases hone2 _ hm _ hm2 with x | x
      · cases x
      · exact x rfl
  · have hl := zsB_len hf.blks
    have hlt := (List.getElem?_eq_some_iff.1 hg).1
    obtain ⟨g', h3, h4⟩ := zsB_at hf.blks k _ (List.getElem?_eq_getElem (by omega))
    rw [hg] at h3; cases h3
    generalize ns[k]'(by omega) = o at h4
    cases g with
    | cells gr cs => trivial
    | seq z n f =>
      cases o with
      | some j =>
        rcases h4 with ⟨m, f', _, _, e3⟩ | ⟨c, cs, _, _, _, e3⟩
        · exact fun i hi => (e3 i hi).nfs
        · exact fun i hi => (e3 i hi).nfs
      | none =>
        have h4 : n = 0 := h4
        subst h4
        exact fun i hi => by omega
    | map => cases o <;> cases h4
    | iter _ _ _ => cases o <;> cases h4
    | loop _ _ _ _ => cases o <;> cases h4
    | ents es ck =>
      cases o with
      | none => cases h4
      | some j => exact h4.1
  · rcases hcase i o hi with h | ⟨_, h⟩
    · exact (hR.dat i o h).1
    · exact h

/-- what a call says, in whatever memory: its arguments name no block of own memory. -/
def Runs (P : Program) (f : Nat) (args : List AV) (R : AV → List NewB → Prop) : Prop :=
  (∃ fn, P.funcs[f]? = some fn ∧ fn.body.isSome = true) ∧
  ∀ (ρ : Ctx) (w : World) (vs : Array Value), (∀ i, (ρ i).oneCell' = true) → (∀ i o, ρ.dat i = some o → w.heap[i]? = some o) → VDs ρ args vs.toList →
    CallsIn (FW none) 0 P f vs w fun e w' => ∃ x G v E', e = .returned v ∧ R x G ∧ VR ρ E' x v ∧ RelG ρ E' G w' ∧ Base w E' w'
mutual
/-- d is what a function sees of a, which is not to be written. -/
def view (H : AH) : AV → AV → Prop
  | .gsl b n, .data z n' f => n = n' ∧ ∃ m f', seqAt H b = some (z, m, f') ∧ n ≤ m ∧ ∀ i, i < n → f i = f' i ∧ nfs (f i) = true
  | .slice b off len cap _, .data z n f => n = len ∧ len ≤ cap ∧ ∃ g cs, cellsAt H b = some (g, cs) ∧ off + len * z ≤ cs.length ∧ ∀ i, i < n → f i = (cs.drop (off + i * z)).take z ∧ nfs (f i) = true
  | .nilSlice, .data _ n _ => n = 0
  | .ptr b off, .dptr l => ∃ g cs, cellsAt H b = some (g, cs) ∧ off + l.length ≤ cs.length ∧ l = (cs.drop off).take l.length ∧ nfs l = true
  | .agg l, .agg m => views H l m
  | .tuple l, .tuple m => views H l m
  | .int k x, .sint j y => k = j ∧ x = y
  | a, d => a = d ∧ nf a = true
def views (H : AH) : List AV → List AV → Prop
  | [], [] => True
  | a :: l, d :: m => view H a d ∧ views H l m
  | _, _ => False
end
def snap (ρ : Ctx) (w : World) : Ctx := ⟨ρ.atoms, fun i => w.heap[i]?⟩
mutual
theorem view_sound (hR : Rel ρ E H w) : ∀ {a d : AV} {v : Value}, VR ρ E a v → view H a d → VD (snap ρ w) d v
  | a, d, v, hv, h => by
    have hnf : ∀ {a : AV} {v : Value}, VR ρ E a v → nf a = true → VD (snap ρ w) a v := fun hv hn => (hv.nf hn).ctx fun i o hi => (hR.dat i o hi).1
    have hnfs : ∀ {l : List AV} {m : List Value}, VRs ρ E l m → nfs l = true → VDs (snap ρ w) l m := fun hv hn => (hv.nf hn).ctx fun i o hi => (hR.dat i o hi).1
    unfold view at h
    split at h
    · rename_i b n z n' f
      obtain ⟨rfl, m, f', h1, h2, h3⟩ := h
      cases hv with
      | gsl _ _ cap r hr hc hs =>
        obtain ⟨c', elem, fr, g1, g2, g3, g4, g5, g6, g7, g8⟩ := seq_rel hR h1 hr
        have hle : n * z ≤ m * z := Nat.mul_le_mul_right z h2
        exact .data z n f _ 0 cap c' elem fr g1 hc (by omega) (fun i hi => by rw [(h3 i hi).1]; exact g7 i (by omega)) fun i hi => by
          have h5 := g8 i (by omega)
          have h6 := (h3 i hi).2
          rw [(h3 i hi).1] at h6 ⊢
          rw [Nat.zero_add]
          exact hnfs h5 h6
      | gsl0 _ a =>
        cases a with
        | none => exact .dataN _ _
        | some a => exact .data0 _ _ _ _
    · rename_i b off len cap ex z n f
      obtain ⟨rfl, hcl, g, cs, h1, h2, h3⟩ := h
      have hr : ∃ r c', v = .slice (some ⟨r.blk, off, none⟩) n c' ∧ n ≤ c' ∧ E b = some r := by
        cases hv with
        | sliceX _ _ _ _ r h => exact ⟨r, _, rfl, hcl, h⟩
        | sliceG _ _ _ _ c' r h hc _ => exact ⟨r, _, rfl, by omega, h⟩
      obtain ⟨r, c', rfl, hc', hr⟩ := hr
      obtain ⟨ca, elem, fr, k1, k2, k3, k4, k5, k6⟩ := cellsAt_rel hR h1 hr
      have hrow : ∀ i, i < n → i * z + z ≤ n * z := fun i hi => by
        have := Nat.mul_le_mul_right z (show i + 1 ≤ n from hi)
        rwa [Nat.succ_mul] at this
      refine .data z n f _ off c' ca elem fr k1 hc' (by omega) (fun i hi => ?_) fun i hi => ?_
      · rw [(h3 i hi).1]
        have := hrow i hi
        simp; omega
      · have h5 := (k5.drop (off + i * z)).take z
        have := hrow i hi
        rw [List.drop_take, List.take_take, Nat.min_eq_left (by omega)] at h5
        have h6 := (h3 i hi).2
        rw [(h3 i hi).1] at h6 ⊢
        exact hnfs h5 h6
    · subst h
      cases hv
      exact .dataN _ _
    · rename_i b off l
      obtain ⟨g, cs, h1, h2, h3, h4⟩ := h
      cases hv with
      | ptr _ _ r hr =>
        obtain ⟨ca, elem, fr, k1, k2, k3, k4, k5, k6⟩ := cellsAt_rel hR h1 hr
        refine .dptr l _ off ca elem fr k1 (by omega) ?_
        have h5 := (k5.drop off).take l.length
        rw [List.drop_take, List.take_take, Nat.min_eq_left (by omega), ← h3] at h5
        exact hnfs h5 h4
    · cases hv with
      | agg _ vs hv => exact .agg _ vs (views_sound hR hv h)
    · cases hv with
      | tuple _ vs hv => exact .tuple _ vs (views_sound hR hv h)
    · obtain ⟨rfl, rfl⟩ := h
      cases hv
      exact .sint _ _
    · obtain ⟨rfl, hn⟩ := h
      exact hnf hv hn
theorem views_sound (hR : Rel ρ E H w) : ∀ {l m : List AV} {vs : List Value}, VRs ρ E l vs → views H l m → VDs (snap ρ w) m vs
  | [], [], vs, hv, h => by cases hv; exact .nil
  | a :: l, d :: m, vs, hv, h => by
    unfold views at h
    cases hv with
    | cons _ v _ m' h1 h2 => exact .cons _ _ _ _ (view_sound hR h1 h.1) (views_sound hR h2 h.2)
  | [], _ :: _, _, _, h => by simp [views] at h
  | _ :: _, [], _, _, h => by simp [views] at h
end
/-- memory of before is as it was, but for what S says. -/
structure BaseS (S : Nat → Prop) (F : Nat → Option FB) (w0 : World) (E : Env) (w : World) : Prop where
  os : w.os = w0.os
  tape : w.tape = w0.tape
  output : w.output = w0.output
  size : w0.heap.size ≤ w.heap.size
  old : ∀ i, i < w0.heap.size → ¬ S i → w.heap[i]? = w0.heap[i]?
  own : ∀ b r, E b = some r → w0.heap.size ≤ r.blk ∨ S r.blk
  keep : ∀ i q, F i = some q → E.fro i = some q
  ice : ∀ i q, E.fro i = some q → F i = some q ∨ w0.heap.size ≤ i ∨ S i
theorem BaseS.ext {S : Nat → Prop} {F : Nat → Option FB} {w0 w' : World} {E' : Env} {H' : AH} (h : BaseS S F w0 E w) (k : Ext E H w E' H' w') : BaseS S F w0 E' w' := by
  refine ⟨k.os.trans h.os, k.tape.trans h.tape, k.output.trans h.output, Nat.le_trans h.size k.size, fun i hi hs => ?_, fun b r hb => ?_, fun i q hq => k.le.fro i q (h.keep i q hq), fun i q hq => ?_⟩
  rotate_right
  · rcases k.ice i q hq with h' | h' | ⟨b, r, hb, e⟩
    · exact h.ice i q h'
    · exact .inr (.inl (Nat.le_trans h.size h'))
    · rcases h.own b r hb with hx | hx
      · exact .inr (.inl (by omega))
      · rw [e] at hx; exact .inr (.inr hx)
  · rw [k.old i (by have := h.size; omega) fun b r hb e => by
      rcases h.own b r hb with hx | hx
      · omega
      · rw [e] at hx; exact hs hx]
    exact h.old i hi hs
  · cases he : E b with
    | some r0 =>
      have := k.le _ _ he
      rw [hb] at this; cases this
      exact h.own b r he
    | none =>
      rcases (k.fresh b r hb he).2 with hx | ⟨b0, r0, h0, e⟩
      · have := h.size; exact .inl (by omega)
      · rw [← e]; exact h.own b0 r0 h0
theorem BaseS.sub {S : Nat → Prop} {F : Nat → Option FB} {w0 : World} {E' : Env} (h : BaseS S F w0 E w) (hs : ∀ b r, E' b = some r → ∃ b', E b' = some r) (hk : ∀ i q, E.fro i = some q → E'.fro i = some q) (hi : ∀ i q, E'.fro i = some q → E.fro i = some q ∨ ∃ b r, E b = some r ∧ r.blk = i) : BaseS S F w0 E' w :=
  ⟨h.os, h.tape, h.output, h.size, h.old, fun b r hb => by obtain ⟨b', hb'⟩ := hs b r hb; exact h.own b' r hb', fun i q hq => hk i q (h.keep i q hq), fun i q hq => by
    rcases hi i q hq with h' | ⟨b, r, hb, e⟩
    · exact h.ice i q h'
    · rcases h.own b r hb with hx | hx
      · exact .inr (.inl (by omega))
      · rw [e] at hx; exact .inr (.inr hx)⟩
/-- does a block of before stand behind a call? -/
def NewB.kept : NewB → Bool
  | .cells none [] => false
  | _ => true
/-- what a call says that writes memory of its caller's: G0 stands there, args name it; behind it the first blocks of G are these, as far as they are kept. -/
def RunsM (P : Program) (f : Nat) (G0 : List NewB) (args : List AV) (R : AV → List NewB → Prop) : Prop :=
  (∃ fn, P.funcs[f]? = some fn ∧ fn.body.isSome = true) ∧
  ∀ (ρ : Ctx) (w : World) (vs : Array Value) (E0 : Env), (∀ i, (ρ i).oneCell' = true) → (∀ i o, ρ.dat i = some o → w.heap[i]? = some o) → RelG ρ E0 G0 w → VRs ρ E0 args vs.toList →
    CallsIn (FW none) 0 P f vs w fun e w' => ∃ x G v E', e = .returned v ∧ R x G ∧ VR ρ E' x v ∧ RelG ρ E' G w' ∧ G0.length ≤ G.length ∧ (∀ (k : Nat) (g : NewB), k < G0.length → G[k]? = some g → g.kept = true → E' k = E0 k) ∧
      BaseS (fun i => ∃ b r, E0 b = some r ∧ r.blk = i) E0.fro w E' w'
def nthKept : List NewB → Nat → Bool
  | [], _ => false
  | g :: _, 0 => g.kept
  | _ :: r, n + 1 => nthKept r n
theorem nthKept_get : ∀ {G : List NewB} {k : Nat} {g : NewB}, G[k]? = some g → nthKept G k = g.kept
  | [], k, g, h => by simp at h
  | a :: r, 0, g, h => by simp at h; subst h; rfl
  | a :: r, k + 1, g, h => nthKept_get (G := r) (by simpa using h)
def nth0 : List Nat → Nat → Nat
  | [], _ => 0
  | j :: _, 0 => j
  | _ :: r, n + 1 => nth0 r n
theorem nth0_get : ∀ {js : List Nat} {k j : Nat}, js[k]? = some j → nth0 js k = j
  | [], k, g, h => by simp at h
  | a :: r, 0, g, h => by simp at h; subst h; rfl
  | a :: r, k + 1, g, h => nth0_get (js := r) (by simpa using h)
/-- the caller's names of a contract's blocks. -/
noncomputable def sig (js : List Nat) (G : List NewB) (next b : Nat) : Nat := cond (Nat.blt b js.length && nthKept G b) (nth0 js b) (b + next)
noncomputable def updP (s : Nat → Nat) : List Nat → List NewB → AH → (AH → Bool) → Bool
  | [], _, H, K => K H
  | j :: js, g :: G, H, K => H.put j (cond g.kept ((g.ren s).blk j) .dead) fun H => updP s js G H K
  | _ :: _, [], _, _ => false
noncomputable def newP (s : Nat → Nat) (m : Nat) : Nat → List NewB → AH → (AH → Bool) → Bool
  | _, [], H, K => K H
  | k, g :: G, H, K => H.alloc (cond (Nat.blt k m && g.kept) (.cells none []) (g.ren s)) fun H => newP s m (k + 1) G H K
noncomputable def alone (H : AH) : List Nat → Bool
  | [] => true
  | j :: r => match (H.tr.get j).bind Blk.cls, H.mem.get j with
    | some c, some [x] => Nat.beq c j && Nat.beq x j && Nat.blt j H.next && alone H r
    | _, _ => false
theorem alone_sound : ∀ {js : List Nat}, alone H js = true → ∀ j ∈ js, H.clsOf j = some j ∧ H.mem.get j = some [j] ∧ j < H.next
  | [], _, j, hj => by simp at hj
  | a :: r, h, j, hj => by
    unfold alone at h
    split at h
    · rename_i c x h1 h2
      simp only [Bool.and_eq_true] at h
      obtain ⟨⟨⟨k1, k2⟩, k3⟩, k4⟩ := h
      obtain rfl := beq_iff'.1 k1
      obtain rfl := beq_iff'.1 k2
      rcases List.mem_cons.1 hj with rfl | hj
      · exact ⟨h1, h2, blt' k3⟩
      · exact alone_sound k4 j hj
    · cases h
theorem updP_spec {s : Nat → Nat} : ∀ {js : List Nat} {G : List NewB} {H : AH} {K : AH → Bool}, js.Nodup → updP s js G H K = true → ∃ H1, K H1 = true ∧ H1.next = H.next ∧ H1.mem = H.mem ∧
    (∀ (k j : Nat) (g : NewB), js[k]? = some j → G[k]? = some g → H1.tr.get j = some (cond g.kept ((g.ren s).blk j) .dead)) ∧ ∀ j, j ∉ js → H1.tr.get j = H.tr.get j
  | [], G, H, K, _, h => ⟨H, h, rfl, rfl, fun k j g hk => by simp at hk, fun _ _ => rfl⟩
  | a :: js, [], H, K, _, h => by cases h
  | a :: js, g0 :: G, H, K, hn, h => by
    obtain ⟨H1, h1, n1, m1, t1⟩ := put_spec h
    obtain ⟨H2, h2, n2, m2, t2, o2⟩ := updP_spec (js := js) (List.nodup_cons.1 hn).2 h1
    refine ⟨H2, h2, n2.trans n1, m2.trans m1, fun k j g hk hg => ?_, fun j hj => ?_⟩
    · cases k with
      | zero =>
        simp at hk hg; subst hk; subst hg
        rw [o2 _ (List.nodup_cons.1 hn).1, t1, if_pos rfl]
      | succ k => exact t2 k j g (by simpa using hk) (by simpa using hg)
    · have : j ≠ a ∧ j ∉ js := by simpa using hj
      rw [o2 j this.2, t1, if_neg this.1]
theorem alloc_spec {n : NewB} {K : AH → Bool} (hK : H.alloc n K = true) : ∃ H', K H' = true ∧ H'.next = H.next + 1 ∧ (∀ j, H'.tr.get j = if j = H.next then some (n.blk H.next) else H.tr.get j) ∧ ∀ j, H'.mem.get j = if j = H.next then some [H.next] else H.mem.get j := by
  have hK : (H.tr.set 60 H.next (n.blk H.next) fun tr => H.mem.set 60 H.next [H.next] fun mem => fNat (H.next + 1) fun next => K { tr, mem, next }) = true := hK
  obtain ⟨t, h1, hg⟩ := Tr.set_spec _ _ _ _ _ hK
  obtain ⟨m, h2, hm⟩ := Tr.set_spec _ _ _ _ _ h1
  rw [fNat_eq] at h2
  exact ⟨_, h2, rfl, hg, hm⟩
theorem newP_spec {s : Nat → Nat} {m : Nat} : ∀ {G : List NewB} {k0 : Nat} {H : AH} {K : AH → Bool}, newP s m k0 G H K = true → ∃ H2, K H2 = true ∧ H2.next = H.next + G.length ∧
    (∀ (k : Nat) (g : NewB), G[k]? = some g → H2.tr.get (H.next + k) = some ((cond (Nat.blt (k0 + k) m && g.kept) (.cells none []) (g.ren s) : NewB).blk (H.next + k)) ∧ H2.mem.get (H.next + k) = some [H.next + k]) ∧ ∀ j, j < H.next → H2.tr.get j = H.tr.get j ∧ H2.mem.get j = H.mem.get j
  | [], k0, H, K, h => ⟨H, h, rfl, fun k g hk => by simp at hk, fun _ _ => ⟨rfl, rfl⟩⟩
  | g0 :: G, k0, H, K, h => by
    obtain ⟨H1, h1, n1, t1, m1⟩ := alloc_spec h
    obtain ⟨H2, h2, n2, t2, o2⟩ := newP_spec (G := G) h1
    refine ⟨H2, h2, by rw [n2, n1]; simp; omega, fun k g hk => ?_, fun j hj => ?_⟩
    · cases k with
      | zero =>
        simp at hk; subst hk
        have := o2 H.next (by omega)
        exact ⟨by rw [Nat.add_zero, this.1, t1, if_pos rfl, Nat.add_zero], by rw [Nat.add_zero, this.2, m1, if_pos rfl]⟩
      | succ k =>
        have := t2 k g (by simpa using hk)
        rw [n1] at this
        rw [show H.next + (k + 1) = H.next + 1 + k by omega, show k0 + (k + 1) = k0 + 1 + k by omega]
        exact this
    · have := o2 j (by omega)
      exact ⟨by rw [this.1, t1, if_neg (by omega)], by rw [this.2, m1, if_neg (by omega)]⟩
/-- what a contract with memory of its caller's wants there. -/
def CallM (P : Program) (f : Nat) (args : List AV) (H : AH) (K : AV → AH → Bool) : Prop :=
  ∃ (R : AV → List NewB → Prop) (G0 : List NewB) (bs : List AV) (js : List Nat), RunsM P f G0 bs R ∧ js.Nodup ∧ Fits (js.map some) args H bs G0 ∧ alone H js = true ∧
    (∀ (k j : Nat), js[k]? = some j → (∃ c z n f, H.tr.get j = some (.seq c z n f)) ∨ ∀ (ρ : Ctx) (E : Env) (w : World) (vs : List Value), RelG ρ E G0 w → VRs ρ E bs vs → ∃ r, E k = some r) ∧
    ∀ x G, R x G → updP (sig js G H.next) js G H (fun H1 => newP (sig js G H.next) js.length 0 G H1 fun H2 => K (x.ren (sig js G H.next)) H2) = true
theorem callM_ok (hρ : ∀ i, (ρ i).oneCell' = true) {f : Nat} {args : List AV} {K : AV → AH → Bool} (h : CallM P f args H K) {vs : Array Value} (hR : Rel ρ E H w) (hV : VRs ρ E args vs.toList) :
    (∃ fn, P.funcs[f]? = some fn ∧ fn.body.isSome = true) ∧ CallsIn (FW none) 0 P f vs w (After ρ E H w K) := by
  obtain ⟨R, G0, bs, js, hr, hnd, hf, hal, hnm, hK⟩ := h
  have hG0 := fits_relG hR hf
  have hV0 := fitsA_vr hV hf.vals
  have hal := alone_sound hal
  refine ⟨hr.1, CallsIn.mono (hr.2 ρ w vs _ hρ (fun i o hi => (hR.dat i o (all_in i o hi)).1) hG0 hV0) ?_⟩
  rintro e w' ⟨x, G, v, E', rfl, hRx, hx, hG, hlen, hkeep, hB⟩
  have hjs : js.length = G0.length := by have := fitsB_len hf.blks; simpa using this
  generalize hs : sig js G H.next = s at hK
  obtain ⟨H1, k1, n1, m1, t1, o1⟩ := updP_spec hnd (by have := hK x G hRx; rw [hs] at this; exact this)
  obtain ⟨H2, k2, n2, t2, o2⟩ := newP_spec k1
  rw [n1] at n2 t2 o2
  have hE0 : ∀ k r, namesE (js.map some) E k = some r → ∃ j, js[k]? = some j ∧ E j = some r := fun k r hk => by
    obtain ⟨j, g1, g2⟩ := names_inv hk
    refine ⟨j, ?_, g2⟩
    simpa using g1
  have hE0' : ∀ k j, js[k]? = some j → namesE (js.map some) E k = E j := fun k j hk => namesE_at (by simp [hk])
  let kp : Nat → Bool := fun k => Nat.blt k js.length && nthKept G k
  have hkp : ∀ k, kp k = true → ∃ j g, js[k]? = some j ∧ G[k]? = some g ∧ g.kept = true := fun k hk => by
    have hk : (Nat.blt k js.length && nthKept G k) = true := hk
    rw [Bool.and_eq_true] at hk
    have hlt := blt' hk.1
    have hlt2 : k < G.length := by omega
    exact ⟨_, _, List.getElem?_eq_getElem hlt, List.getElem?_eq_getElem hlt2, by rw [← nthKept_get (List.getElem?_eq_getElem hlt2)]; exact hk.2⟩
  have hkp' : ∀ k j g, js[k]? = some j → G[k]? = some g → g.kept = true → kp k = true := fun k j g hj hg hk => by
    show (Nat.blt k js.length && nthKept G k) = true
    rw [nthKept_get hg, hk, Bool.and_true]
    exact Nat.ble_eq_true_of_le (List.getElem?_eq_some_iff.1 hj).1
  let E2 : Env := ⟨fun j => if j < H.next then E j else if kp (j - H.next) = true then none else E' (j - H.next), E'.fro⟩
  have hall : ∀ i o, (E'.all ρ).dat i = some o → (E2.all ρ).dat i = some o := fun _ _ h => h
  have hold : ∀ j, j < H.next → E2 j = E j := fun j hj => if_pos hj
  have hnew : ∀ b, E2 (b + H.next) = if kp b = true then none else E' b := fun b => by
    show (if b + H.next < H.next then _ else if kp (b + H.next - H.next) = true then none else E' (b + H.next - H.next)) = _
    rw [if_neg (by omega), Nat.add_sub_cancel]
  have hle : E.le E2 := ⟨fun j r hj => by rw [hold j (hR.dom j r hj)]; exact hj, hB.keep⟩
  have hsig : ∀ b r, E' b = some r → E2 (s b) = some r := fun b r hb => by
    rw [← hs]
    show E2 (cond (kp b) (nth0 js b) (b + H.next)) = some r
    cases hk : kp b with
    | true =>
      obtain ⟨j, g, g1, g2, g3⟩ := hkp b hk
      rw [cond_true, nth0_get g1, hold j (hal j (List.mem_of_getElem? g1)).2.2, ← hE0' b j g1, ← hkeep b g (by have := (List.getElem?_eq_some_iff.1 g1).1; omega) g2 g3]
      exact hb
    | false => rw [cond_false, hnew, hk]; exact hb
  have hcase : ∀ j r, E2 j = some r → (j < H.next ∧ E j = some r) ∨ ∃ b, j = b + H.next ∧ kp b = false ∧ E' b = some r := fun j r hj => by
    by_cases h : j < H.next
    · rw [hold j h] at hj; exact .inl ⟨h, hj⟩
    · have e : j - H.next + H.next = j := by omega
      have hn := hnew (j - H.next)
      rw [e, hj] at hn
      cases hk : kp (j - H.next) with
      | true => rw [hk, if_pos rfl] at hn; cases hn
      | false => rw [hk] at hn; exact .inr ⟨j - H.next, e.symm, hk, hn.symm⟩
  -- who has memory that the call may write
  have hS : ∀ j r c k r0, E j = some r → H.clsOf j = some c → namesE (js.map some) E k = some r0 → r0.blk = r.blk → js[k]? = some j := fun j r c k r0 hj hc hk e => by
    obtain ⟨j', g1, g2⟩ := hE0 k r0 hk
    have ha := hal j' (List.mem_of_getElem? g1)
    have hcc := hR.inj j j' r r0 c j' hj g2 e.symm hc ha.1
    subst hcc
    obtain ⟨_, l, hl, hjl, _⟩ := hR.mem j r _ hj hc
    rw [ha.2.1] at hl; cases hl
    have : j = c := by simpa using hjl
    subst this
    exact g1
  have hgot : ∀ b r, E' b = some r → kp b = false → ∃ g, G[b]? = some g ∧ GOK g ∧ H2.tr.get (b + H.next) = some ((g.ren s).blk (b + H.next)) ∧ H2.mem.get (b + H.next) = some [b + H.next] := fun b r hb hk => by
    obtain ⟨_, g, h1, _⟩ := hG.blk b r hb
    obtain ⟨h2, h3⟩ := t2 b g h1
    have hk : (Nat.blt b js.length && nthKept G b) = false := hk
    rw [nthKept_get h1] at hk
    rw [Nat.zero_add, hk, cond_false, Nat.add_comm] at h2
    rw [Nat.add_comm] at h3
    exact ⟨g, h1, hG.gok b g h1, h2, h3⟩
  have hcnew : ∀ b r, E' b = some r → kp b = false → H2.clsOf (b + H.next) = some (b + H.next) := fun b r hb hk => by
    obtain ⟨g, _, _, h2, _⟩ := hgot b r hb hk
    simp only [AH.clsOf, h2, Option.bind_some]
    exact newB_cls _ _
  have hcold : ∀ j c, j < H.next → H2.clsOf j = some c → H.clsOf j = some c ∧ ∀ k, js[k]? = some j → kp k = true := fun j c hj hc => by
    by_cases hm : j ∈ js
    · obtain ⟨k, hk⟩ := List.mem_iff_getElem?.1 hm
      have hlt2 : k < G.length := by have := (List.getElem?_eq_some_iff.1 hk).1; omega
      have ht := t1 k j _ hk (List.getElem?_eq_getElem hlt2)
      simp only [AH.clsOf] at hc
      rw [(o2 j hj).1, ht] at hc
      cases hg : (G[k]'hlt2).kept with
      | false => rw [hg] at hc; cases hc
      | true =>
        rw [hg, cond_true] at hc
        simp only [Option.bind_some, newB_cls] at hc
        cases hc
        refine ⟨(hal j hm).1, fun k' hk' => ?_⟩
        have hkk : k' = k := (List.getElem?_inj (List.getElem?_eq_some_iff.1 hk').1 hnd).1 (hk'.trans hk.symm)
        subst hkk
        exact hkp' k' j _ hk (List.getElem?_eq_getElem hlt2) hg
    · refine ⟨?_, fun k hk => absurd (List.mem_of_getElem? hk) hm⟩
      simp only [AH.clsOf] at hc ⊢
      rw [(o2 j hj).1, o1 j hm] at hc
      exact hc
  have hmem : ∀ j, j < H.next → H2.mem.get j = H.mem.get j := fun j hj => by rw [(o2 j hj).2, m1]
  refine ⟨_, H2, v, E2, rfl, k2, hx.ren hsig hall, ⟨fun j r hj => ?_, fun j r hj => ?_, fun j j' r r' d d' hj hj' e hd hd' => ?_, fun j r d hj hd => ?_, fun i o hi => ⟨hG.val i o hi, fun j r d hj hd e => ?_⟩⟩, ⟨hle, fun i q hq => ?_, hB.os, hB.tape, hB.output, hB.size, fun i hi hno => ?_, fun j r hj he => ?_, by omega, fun j hj he hns => ?_⟩⟩
  · rcases hcase j r hj with ⟨h, _⟩ | ⟨b, rfl, _, hb⟩
    · omega
    · have := hG.dom b r hb; omega
  · rcases hcase j r hj with ⟨h, hj⟩ | ⟨b, rfl, hk, hb⟩
    · obtain ⟨k1, k, k2, k3⟩ := hR.blk j r hj
      refine ⟨Nat.lt_of_lt_of_le k1 hB.size, ?_⟩
      rw [(o2 j h).1]
      by_cases hm : j ∈ js
      · obtain ⟨q, hq⟩ := List.mem_iff_getElem?.1 hm
        have hlt : q < js.length := (List.getElem?_eq_some_iff.1 hq).1
        have hlt2 : q < G.length := by omega
        have hgq := List.getElem?_eq_getElem hlt2
        refine ⟨_, t1 q j _ hq hgq, ?_⟩
        cases hg : (G[q]'hlt2).kept with
        | false => exact trivial
        | true =>
          have hEq : E' q = some r := by rw [hkeep q _ (by omega) hgq hg, hE0' q j hq]; exact hj
          obtain ⟨_, g', h2, h3⟩ := hG.blk q r hEq
          rw [hgq] at h2; cases h2
          exact BR.ren hsig hall (hG.gok q _ hgq) h3
      · rw [o1 j hm]
        refine ⟨k, k2, ?_⟩
        cases hc : H.clsOf j with
        | none =>
          simp only [AH.clsOf, k2, Option.bind_some] at hc
          cases k <;> first | (cases hc; done) | exact trivial
        | some c =>
          rw [hB.old r.blk k1 (by rintro ⟨q, r0, hq, e⟩; exact hm (List.mem_of_getElem? (hS j r c q r0 hj hc hq e)))]
          exact k3.mono hle
    · obtain ⟨h1, g, h2, h3⟩ := hG.blk b r hb
      obtain ⟨g', k1, k2, k3, k4⟩ := hgot b r hb hk
      rw [h2] at k1; cases k1
      exact ⟨h1, _, k3, BR.ren hsig hall k2 h3⟩
  · have hmix : ∀ b b' r r' c c', b < H.next → E b = some r → H2.clsOf b = some c → kp b' = false → E' b' = some r' → r.blk = r'.blk → H2.clsOf (b' + H.next) = some c' → c = c' := fun b b' r r' c c' hb hbr hbc hk hb' e _ => by
      rcases hB.own b' r' hb' with hx | ⟨q, r0, hq, e0⟩
      · have := (hR.blk b r hbr).1; omega
      · have hc0 := hcold b c hb hbc
        have hq' := hS b r c q r0 hbr hc0.1 hq (e0.trans e.symm)
        have hkq := hc0.2 q hq'
        obtain ⟨j, g, g1, g2, g3⟩ := hkp q hkq
        have hEq : E' q = some r0 := by rw [hkeep q g (by have := (List.getElem?_eq_some_iff.1 g1).1; omega) g2 g3]; exact hq
        have := hG.inj q b' r0 r' hEq hb' e0
        subst this
        rw [hkq] at hk; cases hk
    rcases hcase j r hj with ⟨h, hj1⟩ | ⟨b, rfl, hk, hb⟩ <;> rcases hcase j' r' hj' with ⟨h', hj1'⟩ | ⟨b', rfl, hk', hb'⟩
    · exact hR.inj j j' r r' d d' hj1 hj1' e (hcold j d h hd).1 (hcold j' d' h' hd').1
    · exact hmix j b' r r' d d' h hj1 hd hk' hb' e hd'
    · exact (hmix j' b r' r d' d h' hj1' hd' hk hb e.symm hd).symm
    · have := hG.inj b b' r r' hb hb' e
      subst this
      rw [hd] at hd'; cases hd'; rfl
  · rcases hcase j r hj with ⟨h, hj1⟩ | ⟨b, rfl, hk, hb⟩
    · obtain ⟨g1, l, g2, g3, g4⟩ := hR.mem j r d hj1 (hcold j d h hd).1
      obtain ⟨rd, hrd⟩ := Option.isSome_iff_exists.1 g1
      exact ⟨by rw [hle _ _ hrd]; rfl, l, (hmem d (hR.dom _ _ hrd)).trans g2, g3, fun x hx => by obtain ⟨rx, hrx⟩ := Option.isSome_iff_exists.1 (g4 x hx); rw [hle _ _ hrx]; rfl⟩
    · rw [hcnew b r hb hk] at hd; cases hd
      obtain ⟨g', k1, k2, k3, k4⟩ := hgot b r hb hk
      exact ⟨by rw [hj]; rfl, _, k4, by simp, fun x hx => by simp at hx; subst hx; rw [hj]; rfl⟩
  · rcases hcase j r hj with ⟨h, hj1⟩ | ⟨b, rfl, hk, hb⟩
    · obtain ⟨hc1, hc2⟩ := hcold j d h hd
      have hno : ∀ o', (E.all ρ).dat i = some o' → False := fun o' ho' => (hR.dat i o' ho').2 j r d hj1 hc1 e
      rcases all_cases hi with hi' | ⟨h0, q, hq, rfl⟩
      · exact hno o (all_in i o hi')
      · rcases hB.ice i q hq with h' | h' | ⟨b0, r0, hb0, e0⟩
        · exact hno _ (all_of h0 h')
        · have := (hR.blk j r hj1).1; omega
        · have hjs0 := hS j r d b0 r0 hj1 hc1 hb0 (e0.trans e.symm)
          obtain ⟨j', g, g1, g2, g3⟩ := hkp b0 (hc2 b0 hjs0)
          have hEq : E' b0 = some r0 := by rw [hkeep b0 g (by have := (List.getElem?_eq_some_iff.1 g1).1; omega) g2 g3]; exact hb0
          exact hG.dat b0 r0 _ hEq (by rw [e0]; exact hi)
    · exact hG.dat b r o hb (by rw [e]; exact hi)
  · rcases hB.ice i q hq with h' | h' | ⟨b0, r0, hb0, e0⟩
    · exact .inl h'
    · exact .inr (.inl h')
    · obtain ⟨j, _, hj⟩ := hE0 b0 r0 hb0
      exact .inr (.inr ⟨j, r0, hj, e0⟩)
  · exact hB.old i hi (by rintro ⟨q, r0, hq, e⟩; obtain ⟨j, _, hj⟩ := hE0 q r0 hq; exact hno j r0 hj e)
  · rcases hcase j r hj with ⟨h, hj1⟩ | ⟨b, rfl, hk, hb⟩
    · rw [he] at hj1; cases hj1
    · refine ⟨by omega, ?_⟩
      rcases hB.own b r hb with hx | ⟨q, r0, hq, e0⟩
      · exact .inl hx
      · obtain ⟨j, _, hj⟩ := hE0 q r0 hq
        exact .inr ⟨j, r0, hj, e0⟩
  · have hm : j ∉ js := fun hm => by
      obtain ⟨k, hk⟩ := List.mem_iff_getElem?.1 hm
      rcases hnm k j hk with ⟨c, z, n, f, hq⟩ | hq
      · exact hns c z n f hq
      · obtain ⟨r, hr⟩ := hq ρ _ w vs.toList hG0 hV0
        rw [hE0' k j hk, he] at hr
        cases hr
    exact ⟨by rw [(o2 j hj).1, o1 j hm], hmem j hj⟩
/-- what a contract without views wants there. -/
def CallK (P : Program) (f : Nat) (args : List AV) (H : AH) (K : AV → AH → Bool) : Prop :=
  ∃ (R : AV → List NewB → Prop) (ds : List AV), fitsA [] ds args ∧ nfs ds = true ∧ Runs P f ds R ∧ ∀ x G, R x G → allocAll G H.next H (fun H2 => K (x.ren (· + H.next)) H2) = true
theorem callK_ok (hρ : ∀ i, (ρ i).oneCell' = true) {f : Nat} {args : List AV} {K : AV → AH → Bool} (h : CallK P f args H K) {vs : Array Value} (hR : Rel ρ E H w) (hV : VRs ρ E args vs.toList) :
    (∃ fn, P.funcs[f]? = some fn ∧ fn.body.isSome = true) ∧ CallsIn (FW none) 0 P f vs w (After ρ E H w K) := by
  obtain ⟨R, ds, hfit, hn, hr, hK⟩ := h
  have hD : VDs (E.all ρ) ds vs.toList := VRs.nf (E := namesE [] E) (fitsA_vr hV hfit) hn
  refine ⟨hr.1, CallsIn.mono (hr.2 (E.all ρ) w vs hρ (fun i o hi => (hR.dat i o hi).1) hD) ?_⟩
  rintro e w' ⟨x, G, v, E1, rfl, hRx, hx, hG, hB⟩
  have hal := hK x G hRx
  let fro' : Nat → Option FB := fun i => match E.fro i with | some q => some q | none => E1.fro i
  let Ex : Env := ⟨E.nm, fro'⟩
  let E1' : Env := ⟨E1.nm, fro'⟩
  have hle : E.le Ex := ⟨fun _ _ h => h, fun i q h => by
    show (match E.fro i with | some q => some q | none => E1.fro i) = some q
    rw [h]⟩
  have hcase : ∀ i o, (Ex.all ρ).dat i = some o → (E.all ρ).dat i = some o ∨ ((E1.all (E.all ρ)).dat i = some o ∧ w.heap.size ≤ i) := fun i o h => by
    rcases all_cases h with h | ⟨h0, q, h, rfl⟩
    · exact .inl (all_in i o h)
    · cases hq : E.fro i with
      | some q' =>
        have h : (match E.fro i with | some q => some q | none => E1.fro i) = some q := by assumption
        rw [hq] at h; cases h
        exact .inl (all_of h0 hq)
      | none =>
        have h : (match E.fro i with | some q => some q | none => E1.fro i) = some q := by assumption
        rw [hq] at h
        have hn : (E.all ρ).dat i = none := by
          show (match ρ.dat i with | some o => some o | none => (E.fro i).map FB.obj) = none
          rw [h0, hq]; rfl
        exact .inr ⟨all_of hn h, hB.ice i q h⟩
  have hsub : ∀ i o, (E1.all (E.all ρ)).dat i = some o → (E1'.all ρ).dat i = some o := fun i o h => by
    rcases all_cases h with h | ⟨h0, q, h, rfl⟩
    · exact all_mono hle.fro i o h
    · have h1 : ρ.dat i = none := by
        cases hq : ρ.dat i with
        | none => rfl
        | some o => rw [all_in i o hq] at h0; cases h0
      have h2 : E.fro i = none := by
        cases hq : E.fro i with
        | none => rfl
        | some q => rw [all_of h1 hq] at h0; cases h0
      refine all_of (E := E1') h1 ?_
      show (match E.fro i with | some q => some q | none => E1.fro i) = some q
      rw [h2]; assumption
  have hval : ∀ i o, (Ex.all ρ).dat i = some o → w'.heap[i]? = some o := fun i o hi => by
    rcases hcase i o hi with h | ⟨h, _⟩
    · rw [hB.old i (hR.dat_lt h)]; exact (hR.dat i o h).1
    · exact hG.val i o h
  have hdd : ∀ b r o, E1 b = some r → (Ex.all ρ).dat r.blk = some o → False := fun b r o hb hd => by
    rcases hcase _ o hd with h | ⟨h, _⟩
    · have := hB.own b r hb
      have := hR.dat_lt h
      omega
    · exact hG.dat b r o hb h
  have hG' : RelG ρ E1' G w' := ⟨hG.dom, fun b r hb => by
    obtain ⟨h1, g, h2, h3⟩ := hG.blk b r hb
    exact ⟨h1, g, h2, BR.sub (ρ := ρ) (ρ' := E.all ρ) (E := E1) (E' := E1') rfl (fun _ _ h => h) hsub h3⟩, hG.inj, hdd, hG.gok, hval⟩
  have hR' : Rel ρ Ex H w' := ⟨hR.dom, fun b r hb => by
    obtain ⟨h1, k, h2, h3⟩ := hR.blk b r hb
    exact ⟨Nat.lt_of_lt_of_le h1 hB.size, k, h2, by rw [hB.old _ h1]; exact h3.mono hle⟩, hR.inj, hR.mem, fun i o hi => ⟨hval i o hi, fun b r c hb hc e => by
      rcases hcase i o hi with h | ⟨_, h⟩
      · exact (hR.dat i o h).2 b r c hb hc e
      · have := (hR.blk b r hb).1
        omega⟩⟩
  obtain ⟨H2, E2, h1, h2, h3, h4, h5, h6, h7, h8f⟩ := relG_alloc hR' hG' (fun b r b' r' hb hb' e => by
    have := (hR.blk b r hb).1
    have := hB.own b' r' hb'
    omega) (fun _ _ h => h) hdd hal
  have hxv : VR ρ E1' x v := VR.sub (ρ := ρ) (ρ' := E.all ρ) (E := E1) (E' := E1') rfl (fun _ _ h => h) hsub hx
  refine ⟨_, H2, v, E2, rfl, h1, hxv.ren (s := (· + H.next)) h4 (all_mono fun i q h => by rw [h8f]; exact h), h2, ⟨hle.trans' h3, fun i q h => ?_, hB.os, hB.tape, hB.output, hB.size, fun i hi _ => hB.old i hi, fun j r hj he => ?_, by omega, fun j hj _ _ => h6 j hj⟩⟩
  · rw [h8f] at h
    have h : (match E.fro i with | some q => some q | none => E1.fro i) = some q := h
    split at h
    · rename_i hq; cases h; exact .inl hq
    · exact .inr (.inl (hB.ice i q h))
  · obtain ⟨h8, b, hb, _⟩ := h7 j r hj he
    exact ⟨h8, .inl (hB.own b r hb)⟩
/-- a call of which a contract tells. -/
@[irreducible] noncomputable def callSpec (P : Program) (f : Nat) (args : List AV) (H : AH) (K : AV → AH → Bool) : Bool :=
  @decide ((∃ (R : AV → List NewB → Prop) (ds : List AV), views H args ds ∧ Runs P f ds R ∧ ∀ x G, R x G → df x = true ∧ (∀ g ∈ G, GDF g) ∧ allocAll G H.next H (fun H2 => K (x.ren (· + H.next)) H2) = true) ∨ CallM P f args H K ∨ CallK P f args H K) (Classical.propDecidable _)
theorem callSpec_of {f : Nat} {args ds : List AV} {R : AV → List NewB → Prop} {K : AV → AH → Bool} (hr : Runs P f ds R) (hv : views H args ds) (h : ∀ x G, R x G → df x = true ∧ (∀ g ∈ G, GDF g) ∧ allocAll G H.next H (fun H2 => K (x.ren (· + H.next)) H2) = true) : callSpec P f args H K = true := by
  unfold callSpec
  exact @decide_eq_true _ (Classical.propDecidable _) (.inl ⟨R, ds, hv, hr, h⟩)
theorem callSpec_M {f : Nat} {args : List AV} {K : AV → AH → Bool} (h : CallM P f args H K) : callSpec P f args H K = true := by
  unfold callSpec
  exact @decide_eq_true _ (Classical.propDecidable _) (.inr (.inl h))
theorem callSpec_K {f : Nat} {args : List AV} {K : AV → AH → Bool} (h : CallK P f args H K) : callSpec P f args H K = true := by
  unfold callSpec
  exact @decide_eq_true _ (Classical.propDecidable _) (.inr (.inr h))
theorem GDF.ok {ρ' : Ctx} (ha : ρ'.atoms = ρ.atoms) {E' : Env} (he : ∀ b r, E' b = some r → E b = some r) {g : NewB} (hg : GDF g) (hk : GOK g) {r : RB} {b : Nat} {o : Option Obj} (h : BR ρ' E' r (g.blk b) o) : BR ρ E r (g.blk b) o := by
  cases g with
  | cells gr cs =>
    obtain ⟨c', elem, fr, h1, h2, h3, h4, h5, h6⟩ := h
    exact ⟨c', elem, fr, h1, h2, h3, h4, VRs.df (ρ := ρ) ha he h5 hg, h6⟩
  | seq z n f =>
    obtain ⟨c', elem, fr, h1, h2, h3, h4, h5, h6, h7, h8⟩ := h
    exact ⟨c', elem, fr, h1, h2, h3, h4, h5, h6, h7, fun i hi => VRs.df (ρ := ρ) ha he (h8 i hi) (hg i hi)⟩
  | map => cases hg
  | iter _ _ _ => cases hg
  | loop _ _ _ _ => cases hg
  | ents es ck =>
    obtain ⟨ms, h1, h2⟩ := h
    exact ⟨ms, h1, ERs.df (ρ := ρ) ha he h2 hg⟩
theorem callSpec_ok (hρ : ∀ i, (ρ i).oneCell' = true) {o : Nat → Bool} : CsOK P ρ o (callSpec P) := fun f _ args H K h E w vs hR hV => by
  unfold callSpec at h
  rcases @of_decide_eq_true _ (Classical.propDecidable _) h with ⟨R, ds, hv, hr, hK⟩ | hM | hC
  rotate_left
  · exact callM_ok hρ hM hR hV
  · exact callK_ok hρ hC hR hV
  refine ⟨hr.1, CallsIn.mono (hr.2 (snap ρ w) w vs hρ (fun i o hi => hi) (views_sound hR hV hv)) ?_⟩
  rintro e w' ⟨x, G, v, E1, rfl, hRx, hx, hG, hB⟩
  obtain ⟨hdx, hdG, hal⟩ := hK x G hRx
  have hval : ∀ i o, (E.all ρ).dat i = some o → w'.heap[i]? = some o := fun i o hi => by rw [hB.old i (hR.dat_lt hi)]; exact (hR.dat i o hi).1
  have hdd : ∀ b r o, E1 b = some r → (E.all ρ).dat r.blk = some o → False := fun b r o hb hd => by
    have := hB.own b r hb
    have := hR.dat_lt hd
    omega
  have hG' : RelG ρ ⟨E1.nm, E.fro⟩ G w' := ⟨hG.dom, fun b r hb => by
    obtain ⟨h1, g, h2, h3⟩ := hG.blk b r hb
    exact ⟨h1, g, h2, GDF.ok (ρ := ρ) (ρ' := snap ρ w) (E' := E1) (E := ⟨E1.nm, E.fro⟩) rfl (fun _ _ h => h) (hdG g (List.mem_of_getElem? h2)) (hG.gok b g h2) h3⟩, hG.inj, hdd, hG.gok, hval⟩
  have hR' : Rel ρ E H w' := ⟨hR.dom, fun b r hb => by
    obtain ⟨h1, k, h2, h3⟩ := hR.blk b r hb
    exact ⟨Nat.lt_of_lt_of_le h1 hB.size, k, h2, by rw [hB.old _ h1]; exact h3⟩, hR.inj, hR.mem, fun i o hi => ⟨by rw [hB.old i (hR.dat_lt hi)]; exact (hR.dat i o hi).1, (hR.dat i o hi).2⟩⟩
  obtain ⟨H2, E2, h1, h2, h3, h4, h5, h6, h7, h8f⟩ := relG_alloc hR' hG' (fun b r b' r' hb hb' e => by
    have := (hR.blk b r hb).1
    have := hB.own b' r' hb'
    omega) (fun _ _ h => h) hdd hal
  refine ⟨_, H2, v, E2, rfl, h1, ((hx.df (ρ := ρ) (ρ' := snap ρ w) (E' := E1) (E := ⟨E1.nm, E.fro⟩) rfl (fun _ _ h => h) hdx).ren (s := (· + H.next)) h4 (all_mono fun i q h => by rw [h8f]; exact h)), h2, ⟨h3, fun i q h => .inl (by rw [h8f] at h; exact h), hB.os, hB.tape, hB.output, hB.size, fun i hi _ => hB.old i hi, fun j r hj he => ?_, by omega, fun j hj _ _ => h6 j hj⟩⟩
  obtain ⟨h8, b, hb, _⟩ := h7 j r hj he
  exact ⟨h8, .inl (hB.own b r hb)⟩

/-- the next round of a loop. -/
@[irreducible] noncomputable def again' {X : Type} (T : X → List AV) (G : X → List NewB) (m : X → Nat) (x : X) (t : List AV) (H : AH) : Bool :=
  @decide (∃ fz ns y, m y < m x ∧ FitsZ fz ns t H (T y) (G y)) (Classical.propDecidable _)
theorem again_ofZ {X : Type} {T : X → List AV} {G : X → List NewB} {m : X → Nat} {x : X} {t : List AV} (fz : List Nat) (ns : List (Option Nat)) (y : X) (hm : m y < m x) (hf : FitsZ fz ns t H (T y) (G y)) : again' T G m x t H = true := by
  unfold again'
  exact @decide_eq_true _ (Classical.propDecidable _) ⟨fz, ns, y, hm, hf⟩
theorem again_of {X : Type} {T : X → List AV} {G : X → List NewB} {m : X → Nat} {x : X} {t : List AV} (ns : List (Option Nat)) (y : X) (hm : m y < m x) (hf : Fits ns t H (T y) (G y)) : again' T G m x t H = true := again_ofZ [] ns y hm hf.z
/-- a loop: T and G tell what stands at its head. -/
@[irreducible] noncomputable def loopSpec (run : List AV → AH → (Ex → List AV → AH → Bool) → Bool) (tmps : List AV) (H : AH) (K : Ex → List AV → AH → Bool) : Bool :=
  @decide (∃ (X : Type) (T : X → List AV) (G : X → List NewB) (m : X → Nat), (∃ fz ns x0, FitsZ fz ns tmps H (T x0) (G x0)) ∧
    ∀ x, allocAll (G x) 0 AH.none (fun H' => run (T x) H' fun e t H2 => match e with | .normal => again' T G m x t H2 | e => K e t H2) = true) (Classical.propDecidable _)
theorem loop_ofZ {run : List AV → AH → (Ex → List AV → AH → Bool) → Bool} {tmps : List AV} {K : Ex → List AV → AH → Bool} {X : Type} (T : X → List AV) (G : X → List NewB) (m : X → Nat) (fz : List Nat) (ns : List (Option Nat)) (x0 : X) (hf : FitsZ fz ns tmps H (T x0) (G x0))
    (h : ∀ x, allocAll (G x) 0 AH.none (fun H' => run (T x) H' fun e t H2 => match e with | .normal => again' T G m x t H2 | e => K e t H2) = true) : loopSpec run tmps H K = true := by
  unfold loopSpec
  exact @decide_eq_true _ (Classical.propDecidable _) ⟨X, T, G, m, ⟨fz, ns, x0, hf⟩, h⟩
theorem loop_of {run : List AV → AH → (Ex → List AV → AH → Bool) → Bool} {tmps : List AV} {K : Ex → List AV → AH → Bool} {X : Type} (T : X → List AV) (G : X → List NewB) (m : X → Nat) (ns : List (Option Nat)) (x0 : X) (hf : Fits ns tmps H (T x0) (G x0))
    (h : ∀ x, allocAll (G x) 0 AH.none (fun H' => run (T x) H' fun e t H2 => match e with | .normal => again' T G m x t H2 | e => K e t H2) = true) : loopSpec run tmps H K = true := loop_ofZ T G m [] ns x0 hf.z h
/-- the first region of code. -/
def regOf : Code → Nat
  | .region id _ _ => id
  | .seq a _ => regOf a
  | .block _ b => regOf b
  | .loop b => regOf b
  | .cond _ a _ => regOf a
  | _ => 1000000
/-- code, in which the loops that lp names are told by what stands at their heads. -/
noncomputable def evTop (P : Program) (call : CallF) (lp : Nat → Bool) : Nat → Code → List AV → AH → (Ex → List AV → AH → Bool) → Bool
  | 0, _, _, _, _ => false
  | n + 1, c, tmps, H, K => match c with
    | .seq a b => evTop P call lp n a tmps H fun e tmps H => match e with
      | .normal => evTop P call lp n b tmps H K
      | e => K e tmps H
    | .cond x a b => match aop tmps x with
      | some (.bool true) => evTop P call lp n a tmps H K
      | some (.bool false) => evTop P call lp n b tmps H K
      | some (.sbool t) => fork t (evTop P call lp n a tmps H K) (evTop P call lp n b tmps H K)
      | _ => false
    | .block id b => evTop P call lp n b tmps H fun e tmps H => match e with
      | .exit j => cond (Nat.beq j id) (K .normal tmps H) (K (.exit j) tmps H)
      | e => K e tmps H
    | .loop b => match lp (regOf b) with
      | true => loopSpec (evTop P call lp n b) tmps H K
      | false => evTop P call lp n b tmps H fun e tmps H => match e with
        | .normal => evTop P call lp n (.loop b) tmps H K
        | e => K e tmps H
    | c => evCode P call false (n + 1) c tmps H K
theorem Marks.sub {lo : Nat} {ds : List Deferred} {E' : Env} (h : Marks lo E w ds) (hs : ∀ b r, E' b = some r → ∃ b', E b' = some r) : Marks lo E' w ds :=
  ⟨fun d hd => by
    obtain ⟨r, h1, h2, h3, h4⟩ := h.all d hd
    exact ⟨r, h1, h2, h3, fun b rb hb => by obtain ⟨b', hb'⟩ := hs b rb hb; exact h4 b' rb hb'⟩, h.nd⟩
theorem Base.sub {w0 : World} {E' : Env} (h : Base w0 E w) (hs : ∀ b r, E' b = some r → ∃ b', E b' = some r) (hi : ∀ i q, E'.fro i = some q → E.fro i = some q ∨ ∃ b r, E b = some r ∧ r.blk = i) : Base w0 E' w :=
  ⟨h.os, h.tape, h.output, h.size, h.old, fun b r hb => by obtain ⟨b', hb'⟩ := hs b r hb; exact h.own b' r hb', fun i q hq => by
    rcases hi i q hq with h' | ⟨b, r, hb, e⟩
    · exact h.ice i q h'
    · have := h.own b r hb; omega⟩
def TopOK (P : Program) (ρ : Ctx) (call : CallF) (lp : Nat → Bool) (S : Nat → Prop) (F : Nat → Option FB) (w0 : World) (lo : Nat) (n : Nat) : Prop :=
  ∀ (c : Code) (tmps : List AV) (H : AH) (K : Ex → List AV → AH → Bool) (act : Act) (w : World) (E : Env) (Q : Exit → Act → World → Prop), evTop P call lp n c tmps H K = true → Rel ρ E H w → VRs ρ E tmps act.tmps.toList → BaseS S F w0 E w → lo ≤ w.heap.size → Marks lo E w act.defers →
      (∀ e tmps' H' a' w' E', K e tmps' H' = true → VRs ρ E' tmps' a'.tmps.toList → Rel ρ E' H' w' → BaseS S F w0 E' w' → lo ≤ w'.heap.size → Marks lo E' w' a'.defers → Q (exOf e) a' w') → c.wpIn (FW none) 0 P Q act w
theorem top_step (hP : Plain P) (hm : P.follows .mixedOrders = true) {call : CallF} (hc : CallOK P ρ call) (hρ : ∀ i, (ρ i).oneCell' = true) {lp : Nat → Bool} {S : Nat → Prop} {F : Nat → Option FB} {w0 : World} {lo : Nat} (hD : ∀ i o, ρ.dat i = some o → w0.heap[i]? = some o ∧ ¬ S i) :
    ∀ (n : Nat), (∀ m, m < n → TopOK P ρ call lp S F w0 lo m) → TopOK P ρ call lp S F w0 lo n
  | 0, _ => fun c tmps H K act w E Q h _ _ _ _ _ _ => by cases h
  | n + 1, ih => fun c tmps H K act w E Q h hR ht hB hlo hM hQ => by
    have ihn := ih n (Nat.lt_succ_self n)
    have hother : evCode P call false (n + 1) c tmps H K = true → c.wpIn (FW none) 0 P Q act w := fun h =>
      evCode_sound hP hm hc hρ (rd := false) (ro := none) (fun _ => rfl) (lo := lo) (n + 1) c tmps H K act w E Q h hR ht hlo hM fun e t2 H2 a2 w2 E2 k1 k2 k3 k4 k5 =>
        hQ e t2 H2 a2 w2 E2 k1 k2 k3 (hB.ext k4) (Nat.le_trans hlo k4.size) k5
    cases c with
    | skip => exact hother h
    | label l => exact hother h
    | exit id => exact hother h
    | goto l => exact hother h
    | ret => exact hother h
    | refuse why => exact hother h
    | scope b => exact hother h
    | region id ops d => exact hother h
    | rangeFunc f ps as bd => exact hother h
    | seq a b =>
      refine wpIn_seq (ihn a tmps H _ act w E _ h hR ht hB hlo hM fun e t2 H2 a2 w2 E2 k1 k2 k3 k4 k5 k6 => ?_)
      cases e with
      | normal => exact ihn b t2 H2 K a2 w2 E2 Q k1 k3 k2 k4 k5 k6 hQ
      | exit id => exact hQ (.exit id) t2 H2 a2 w2 E2 k1 k2 k3 k4 k5 k6
      | goto l => exact hQ (.goto l) t2 H2 a2 w2 E2 k1 k2 k3 k4 k5 k6
      | ret => exact hQ .ret t2 H2 a2 w2 E2 k1 k2 k3 k4 k5 k6
    | cond x a b =>
      unfold evTop at h
      simp only at h
      have hx : ∀ v, aop tmps x = some v → VR ρ E v (act.eval x) := fun v hv => aop_sound hv fun t _ => by have := ht.get t; simpa using this
      split at h
      · rename_i hv
        have e := hx _ hv
        generalize hc0 : act.eval x = vx at e
        cases e
        exact wpIn_cond_true hc0 (ihn a tmps H K act w E Q h hR ht hB hlo hM hQ)
      · rename_i hv
        have e := hx _ hv
        generalize hc0 : act.eval x = vx at e
        cases e
        exact wpIn_cond_false hc0 (ihn b tmps H K act w E Q h hR ht hB hlo hM hQ)
      · rename_i hv
        have e := hx _ hv
        generalize hc0 : act.eval x = vx at e
        cases e with
        | sbool t =>
          rcases fork_split' h with ⟨hc, h'⟩ | ⟨hc, h'⟩
          · subst hc; exact wpIn_cond_true hc0 (ihn a tmps H K act w E Q h' hR ht hB hlo hM hQ)
          · subst hc; exact wpIn_cond_false hc0 (ihn b tmps H K act w E Q h' hR ht hB hlo hM hQ)
      · cases h
    | block id b =>
      refine wpIn_block (ihn b tmps H _ act w E _ h hR ht hB hlo hM fun e t2 H2 a2 w2 E2 k1 k2 k3 k4 k5 k6 => ?_)
      cases e with
      | normal => exact hQ .normal t2 H2 a2 w2 E2 k1 k2 k3 k4 k5 k6
      | exit j =>
        show (if j = id then Q .normal a2 w2 else Q (.exit j) a2 w2)
        rcases cond_split (p := fun z => z = true) k1 with ⟨hj, k1⟩ | ⟨hj, k1⟩
        · rw [if_pos (beq_iff'.1 hj)]; exact hQ .normal t2 H2 a2 w2 E2 k1 k2 k3 k4 k5 k6
        · rw [if_neg (beq_false'.1 hj)]; exact hQ (.exit j) t2 H2 a2 w2 E2 k1 k2 k3 k4 k5 k6
      | goto l => exact hQ (.goto l) t2 H2 a2 w2 E2 k1 k2 k3 k4 k5 k6
      | ret => exact hQ .ret t2 H2 a2 w2 E2 k1 k2 k3 k4 k5 k6
    | loop b =>
      have hall := h
      unfold evTop at h
      simp only at h
      split at h
      · clear hall
        unfold loopSpec at h
        obtain ⟨X, T, G, m, ⟨fz, ns, x0, hf⟩, hrun⟩ := @of_decide_eq_true _ (Classical.propDecidable _) h
        have hhead : ∀ {E' : Env} {H' : AH} {w' : World} {t : List AV} {fz : List Nat} {ns : List (Option Nat)} {y : X} {a' : Act}, Rel ρ E' H' w' → VRs ρ E' t a'.tmps.toList → BaseS S F w0 E' w' → lo ≤ w'.heap.size → Marks lo E' w' a'.defers → FitsZ fz ns t H' (T y) (G y) →
            ∃ E1, RelG ρ E1 (G y) w' ∧ VRs ρ E1 (T y) a'.tmps.toList ∧ BaseS S F w0 E1 w' ∧ lo ≤ w'.heap.size ∧ Marks lo E1 w' a'.defers := fun {E' H' w' t fz ns y a'} h1 h2 h3 h4 h5 h6 => by
          obtain ⟨E1, g1, g2, hs, _, g3, g4⟩ := fitsZ_head h1 h6 h2
          exact ⟨E1, g1, g2, h3.sub hs g3 g4, h4, h5.sub hs⟩
        refine wpIn_loop_ghost (fun j a' w' => ∃ y E1, m y = j ∧ RelG ρ E1 (G y) w' ∧ VRs ρ E1 (T y) a'.tmps.toList ∧ BaseS S F w0 E1 w' ∧ lo ≤ w'.heap.size ∧ Marks lo E1 w' a'.defers) (m x0) ?_ ?_
        · obtain ⟨E1, h1⟩ := hhead hR ht hB hlo hM hf
          exact ⟨x0, E1, rfl, h1⟩
        · rintro j a1 w1 ⟨y, E1, rfl, hG, hT, hB1, hlo1, hM1⟩
          have hR0 : Rel ρ ⟨fun _ => none, E1.fro⟩ AH.none w1 := ⟨fun b r h => by (cases h), fun b r h => by (cases h), fun b b' r r' c c' h => by (cases h), fun b r c h => by (cases h), fun i o hi => ⟨hG.val i o hi, fun b r c h => by cases h⟩⟩
          obtain ⟨H2, E2, g1, g2, g3, g4, g5, g6, g7, g8⟩ := relG_alloc hR0 hG (fun b r b' r' hb => by cases hb) (fun _ _ h => h) (fun b r o hb hd => hG.dat b r o hb hd) (hrun y)
          have hT2 : VRs ρ E2 (T y) a1.tmps.toList := hT.mono ⟨fun b r hb => g4 b r hb, fun i q h => by rw [g8]; exact h⟩
          have hs : ∀ b r, E2 b = some r → ∃ b', E1 b' = some r := fun b r hb => by obtain ⟨_, b', h, _⟩ := g7 b r hb rfl; exact ⟨b', h⟩
          refine ihn b (T y) H2 _ a1 w1 E2 _ g1 g2 hT2 (hB1.sub hs (fun i q h => by rw [g8]; exact h) fun i q h => .inl (by rw [g8] at h; exact h)) hlo1 (hM1.sub hs) fun e t2 H3 a2 w2 E3 k1 k2 k3 k4 k5 k6 => ?_
          cases e with
          | normal =>
            simp only at k1
            unfold again' at k1
            obtain ⟨fz', ns', y', hlt, hf'⟩ := @of_decide_eq_true _ (Classical.propDecidable _) k1
            obtain ⟨E4, h1⟩ := hhead k3 k2 k4 k5 k6 hf'
            exact ⟨m y', hlt, y', E4, rfl, h1⟩
          | exit id => exact hQ (.exit id) t2 H3 a2 w2 E3 k1 k2 k3 k4 k5 k6
          | goto l => exact hQ (.goto l) t2 H3 a2 w2 E3 k1 k2 k3 k4 k5 k6
          | ret => exact hQ .ret t2 H3 a2 w2 E3 k1 k2 k3 k4 k5 k6
      · rename_i hlp
        clear h
        refine wpIn_loop_ghost (fun j a' w' => j ≤ n + 1 ∧ ∃ tmps' H' E', evTop P call lp j (.loop b) tmps' H' K = true ∧ Rel ρ E' H' w' ∧ VRs ρ E' tmps' a'.tmps.toList ∧ BaseS S F w0 E' w' ∧ lo ≤ w'.heap.size ∧ Marks lo E' w' a'.defers) (n + 1) ⟨Nat.le_refl _, tmps, H, E, hall, hR, ht, hB, hlo, hM⟩ ?_
        rintro j a1 w1 ⟨hj, t1, H1, E1, k1, k2, k3, k4, k5, k6⟩
        cases j with
        | zero => cases k1
        | succ j =>
          unfold evTop at k1
          simp only [hlp] at k1
          refine ih j (by omega) b t1 H1 _ a1 w1 E1 _ k1 k2 k3 k4 k5 k6 fun e t2 H2 a2 w2 E2 l1 l2 l3 l4 l5 l6 => ?_
          cases e with
          | normal => exact ⟨j, Nat.lt_succ_self j, by omega, t2, H2, E2, l1, l3, l2, l4, l5, l6⟩
          | exit id => exact hQ (.exit id) t2 H2 a2 w2 E2 l1 l2 l3 l4 l5 l6
          | goto l => exact hQ (.goto l) t2 H2 a2 w2 E2 l1 l2 l3 l4 l5 l6
          | ret => exact hQ .ret t2 H2 a2 w2 E2 l1 l2 l3 l4 l5 l6
theorem evTop_sound (hP : Plain P) (hm : P.follows .mixedOrders = true) {call : CallF} (hc : CallOK P ρ call) (hρ : ∀ i, (ρ i).oneCell' = true) {lp : Nat → Bool} {S : Nat → Prop} {F : Nat → Option FB} {w0 : World} {lo : Nat} (hD : ∀ i o, ρ.dat i = some o → w0.heap[i]? = some o ∧ ¬ S i) (n : Nat) : TopOK P ρ call lp S F w0 lo n := by
  induction n using Nat.strongRecOn with
  | _ n ih => exact top_step hP hm hc hρ hD n ih
/-- what a function tells in the end. -/
@[irreducible] noncomputable def leaf' (R : AV → List NewB → Prop) (x : AV) (H : AH) : Bool :=
  @decide (∃ fz ns y G, FitsZ fz ns [x] H [y] G ∧ R y G) (Classical.propDecidable _)
theorem leaf_ofZ {R : AV → List NewB → Prop} {x : AV} (fz : List Nat) (ns : List (Option Nat)) (y : AV) (G : List NewB) (hf : FitsZ fz ns [x] H [y] G) (hR : R y G) : leaf' R x H = true := by
  unfold leaf'
  exact @decide_eq_true _ (Classical.propDecidable _) ⟨fz, ns, y, G, hf, hR⟩
theorem leaf_of {R : AV → List NewB → Prop} {x : AV} (ns : List (Option Nat)) (y : AV) (G : List NewB) (hf : Fits ns [x] H [y] G) (hR : R y G) : leaf' R x H = true := leaf_ofZ [] ns y G hf.z hR
noncomputable def evFun (P : Program) (o : Nat → Bool) (lp : Nat → Bool) (n f : Nat) (args : List AV) (K : AV → AH → Bool) : Bool := match P.funcs[f]? with
  | none => false
  | some fn => match fn.body with
    | none => false
    | some c => evTop P (evCall P o (callSpec P) n) lp n c (args ++ undefs (fn.ntmps - args.length)) AH.none fun e tmps H => match e with
      | .normal => match resAll P H tmps fn.results.toList with | some l => K (outV l) H | none => false
      | .ret => match resAll P H tmps fn.results.toList with | some l => K (outV l) H | none => false
      | _ => false
/-- a run on abstract memory is a contract. -/
theorem runs_of' (hP : Plain P) (hm : P.follows .mixedOrders = true) {o lp : Nat → Bool} {n f : Nat} {args : List AV} {R : AV → List NewB → Prop} {KE : AV → AH → Bool} (hKE : ∀ x H, KE x H = true → leaf' R x H = true) (h : evFun P o lp n f args KE = true) : Runs P f args R := by
  unfold evFun at h
  split at h
  · cases h
  rename_i fn hf
  split at h
  · cases h
  rename_i c hb
  refine ⟨⟨fn, hf, by simp [hb]⟩, fun ρ w vs hρ hd hV => callsIn_of_wp_marks hf hb trivial ?_⟩
  have hsz : vs.size = args.length := by have := (hV.vr (E := noEnv)).length; simpa using this
  have ht0 : VRs ρ noEnv (args ++ undefs (fn.ntmps - args.length)) (vs ++ Array.replicate (fn.ntmps - vs.size) undef).toList := by
    rw [Array.toList_append, Array.toList_replicate, hsz]
    exact hV.vr.append (undefs_sound _)
  have hB0 : BaseS (fun _ => False) (fun _ => none) w noEnv w := ⟨rfl, rfl, rfl, Nat.le_refl _, fun _ _ _ => rfl, fun b r h => (by cases h), fun _ _ h => (by cases h), fun _ _ h => (by cases h)⟩
  refine evTop_sound hP hm (call_sound hP hm (callSpec_ok hρ) hρ n) hρ (lo := w.heap.size) (w0 := w) (S := fun _ => False) (fun i o hi => ⟨hd i o hi, fun h => h⟩) n c _ AH.none _ { tmps := vs ++ Array.replicate (fn.ntmps - vs.size) undef, defers := [] } w noEnv _ h (rel_none w hd) ht0 hB0 (Nat.le_refl _) Marks.nil fun e t2 H2 a2 w2 E2 k1 k2 k3 k4 k5 k6 => ?_
  have hfin : ∀ (l : List AV), resAll P H2 t2 fn.results.toList = some l → leaf' R (outV l) H2 = true → LeavesInM (FW none) 0 P fn a2.tmps (fun e w' => ∃ x G v E', e = .returned v ∧ R x G ∧ VR ρ E' x v ∧ RelG ρ E' G w' ∧ Base w E' w') a2.defers .returning w2 := fun l hl hK =>
    leaves_marks (lo := w.heap.size) (fun i o hi => (Array.getElem?_eq_some_iff.1 (hd i o hi)).1) a2.defers w2 k3 k6 fun w' g1 g2 g3 g4 g5 g6 => by
      obtain ⟨v, h3, h4⟩ := results_sound (P := P) g1 k2 hl
      unfold leaf' at hK
      obtain ⟨fz, ns, y, G, hft, hR⟩ := @of_decide_eq_true _ (Classical.propDecidable _) hK
      obtain ⟨E3, q1, q2, hs, _, q3, q4⟩ := fitsZ_head g1 hft (.cons _ _ _ _ h4 .nil)
      have hv : VR ρ E3 y v := by cases q2 with | cons _ _ _ _ h _ => exact h
      have hB2 : Base w E2 w' := ⟨g4.trans k4.os, g5.trans k4.tape, g6.trans k4.output, by rw [g2]; exact k4.size, fun i hi => (g3 i hi).trans (k4.old i hi fun h => h), fun b r hb => (k4.own b r hb).resolve_right fun h => h, fun i q hq => by
        rcases k4.ice i q hq with h | h | h
        · cases h
        · exact h
        · exact h.elim⟩
      exact ⟨v, h3, y, G, v, E3, rfl, hR, hv, q1, hB2.sub hs q4⟩
  cases e with
  | normal =>
    simp only at k1
    split at k1
    · rename_i l hl
      exact hfin l hl (hKE _ _ k1)
    · cases k1
  | ret =>
    simp only at k1
    split at k1
    · rename_i l hl
      exact hfin l hl (hKE _ _ k1)
    · cases k1
  | exit id => cases k1
  | goto l => cases k1
theorem runs_of (hP : Plain P) (hm : P.follows .mixedOrders = true) {o lp : Nat → Bool} {n f : Nat} {args : List AV} {R : AV → List NewB → Prop} (h : evFun P o lp n f args (leaf' R) = true) : Runs P f args R :=
  runs_of' hP hm (fun _ _ h => h) h
/-- what a contract with memory of its caller's tells in the end: its result, behind it a name of each block that it keeps. -/
def marks0 : Nat → Nat → List AV
  | _, 0 => []
  | k, m + 1 => .gsl k 0 :: marks0 (k + 1) m
def marksG : Nat → Nat → List NewB → List AV
  | _, 0, _ => []
  | k, m + 1, g :: G => cond g.kept (.gsl k 0) .top :: marksG (k + 1) m G
  | _, _ + 1, [] => [.bool false, .bool false]
def RM (m : Nat) (R : AV → List NewB → Prop) (y : AV) (G : List NewB) : Prop := ∃ x, y = .tuple (x :: marksG 0 m G) ∧ R x G
theorem marks0_len : ∀ (m k : Nat), (marks0 k m).length = m
  | 0, k => rfl
  | m + 1, k => by simp [marks0, marks0_len m]
theorem marksG_fits {ns : List (Option Nat)} : ∀ {m k : Nat} {G : List NewB}, zsA H fz ns (marksG k m G) (marks0 k m) → m ≤ G.length ∧ ∀ (i : Nat) (g : NewB), i < m → G[i]? = some g → g.kept = true → ns[k + i]? = some (some (k + i))
  | 0, k, G, _ => ⟨Nat.zero_le _, fun i g hi => absurd hi (Nat.not_lt_zero i)⟩
  | m + 1, k, [], h => by
    have := zsA_len h
    cases m with
    | zero => simp [marksG, marks0] at this
    | succ m =>
      simp only [marksG, marks0, zsA] at h
      have := h.1
      unfold zA at this
      rcases this with this | this
      · simp [fitA] at this
      · cases this
  | m + 1, k, g0 :: G, h => by
    simp only [marksG, marks0, zsA] at h
    obtain ⟨h1, h2⟩ := h
    obtain ⟨k1, k2⟩ := marksG_fits h2
    refine ⟨by simp; omega, fun i g hi hg hk => ?_⟩
    cases i with
    | zero =>
      simp at hg; subst hg
      rw [hk, cond_true] at h1
      unfold zA at h1
      rcases h1 with h1 | h1
      · simpa [fitA] using h1
      · cases h1 with
        | flat _ h => simp [nf] at h
    | succ i =>
      rw [show k + (i + 1) = k + 1 + i by omega]
      exact k2 i g (by omega) (by simpa using hg) hk
theorem marks_vr {E : Env} : ∀ (m k : Nat), ∃ vs, VRs ρ E (marks0 k m) vs
  | 0, k => ⟨_, .nil⟩
  | m + 1, k => by
    obtain ⟨vs, h⟩ := marks_vr (E := E) m (k + 1)
    exact ⟨_, .cons _ _ _ _ (.gsl0 k none) h⟩
/-- a run on abstract memory is a contract, with memory of its caller's. -/
theorem runsM_of (hP : Plain P) (hm : P.follows .mixedOrders = true) {o : Nat → Bool} {n f : Nat} {fn : Func} {c : Code} (hf : P.funcs[f]? = some fn) (hb : fn.body = some c) {G0 : List NewB} {args : List AV} {R : AV → List NewB → Prop}
    (h : allocAll G0 0 AH.none (fun H0 => evCode P (evCall P o (callSpec P) n) false n c (args ++ undefs (fn.ntmps - args.length)) H0 fun e tmps H => match e with
      | .normal => match resAll P H tmps fn.results.toList with | some l => leaf' (RM G0.length R) (.tuple (outV l :: marks0 0 G0.length)) H | none => false
      | .ret => match resAll P H tmps fn.results.toList with | some l => leaf' (RM G0.length R) (.tuple (outV l :: marks0 0 G0.length)) H | none => false
      | _ => false) = true) : RunsM P f G0 args R := by
  refine ⟨⟨fn, hf, by simp [hb]⟩, fun ρ w vs E0 hρ hd hG hV => callsIn_of_wp_marks hf hb trivial ?_⟩
  have hsz : vs.size = args.length := by have := hV.length; simpa using this
  have hR0 : Rel ρ ⟨fun _ => none, E0.fro⟩ AH.none w := ⟨fun b r h => by (cases h), fun b r h => by (cases h), fun b b' r r' c c' h => by (cases h), fun b r c h => by (cases h), fun i o hi => ⟨hG.val i o hi, fun b r c h => by cases h⟩⟩
  obtain ⟨H1, E1, g1, g2, g3, g4, g5, g6, g7, g8⟩ := relG_alloc hR0 hG (fun b r b' r' hb => by cases hb) (fun _ _ h => h) (fun b r o hb hd => hG.dat b r o hb hd) h
  have g4' : ∀ b r, E0 b = some r → E1 b = some r := fun b r hb => g4 b r hb
  have hE1 : ∀ b r, E1 b = some r → E0 b = some r := fun b r hb => by
    obtain ⟨_, b', hb', rfl⟩ := g7 b r hb rfl
    exact hb'
  have hs1 : ∀ b r, E1 b = some r → ∃ b', E0 b' = some r := fun b r hb => ⟨b, hE1 b r hb⟩
  have ht0 : VRs ρ E1 (args ++ undefs (fn.ntmps - args.length)) (vs ++ Array.replicate (fn.ntmps - vs.size) undef).toList := by
    rw [Array.toList_append, Array.toList_replicate, hsz]
    exact (hV.mono ⟨g4', fun i q h => by rw [g8]; exact h⟩).append (undefs_sound _)
  have hB0 : BaseS (fun i => ∃ b r, E0 b = some r ∧ r.blk = i) E0.fro w E1 w := ⟨rfl, rfl, rfl, Nat.le_refl _, fun _ _ _ => rfl, fun b r hb => by
    obtain ⟨b', hb'⟩ := hs1 b r hb
    exact .inr ⟨b', r, hb', rfl⟩, fun i q h => by rw [g8]; exact h, fun i q h => .inl (by rw [g8] at h; exact h)⟩
  refine evCode_sound hP hm (call_sound hP hm (callSpec_ok hρ) hρ n) hρ (rd := false) (ro := none) (fun _ => rfl) (lo := w.heap.size) n c _ H1 _ { tmps := vs ++ Array.replicate (fn.ntmps - vs.size) undef, defers := [] } w E1 _ g1 g2 ht0 (Nat.le_refl _) Marks.nil fun e t2 H2 a2 w2 E2 k1 k2 k3 k4 k6 => ?_
  have hfin : ∀ (l : List AV), resAll P H2 t2 fn.results.toList = some l → leaf' (RM G0.length R) (.tuple (outV l :: marks0 0 G0.length)) H2 = true → LeavesInM (FW none) 0 P fn a2.tmps (fun e w' => ∃ x G v E', e = .returned v ∧ R x G ∧ VR ρ E' x v ∧ RelG ρ E' G w' ∧ G0.length ≤ G.length ∧ (∀ (k : Nat) (g : NewB), k < G0.length → G[k]? = some g → g.kept = true → E' k = E0 k) ∧
      BaseS (fun i => ∃ b r, E0 b = some r ∧ r.blk = i) E0.fro w E' w') a2.defers .returning w2 := fun l hl hK =>
    leaves_marks (lo := w.heap.size) (fun i o hi => (Array.getElem?_eq_some_iff.1 (hd i o hi)).1) a2.defers w2 k3 k6 fun w' g1 g2 g3 g4 g5 g6 => by
      obtain ⟨v, h3, h4⟩ := results_sound (P := P) g1 k2 hl
      unfold leaf' at hK
      obtain ⟨fz, ns, y, G, hft, x, rfl, hR⟩ := @of_decide_eq_true _ (Classical.propDecidable _) hK
      have hfv := hft.vals
      unfold zsA at hfv
      have hfv1 := hfv.1
      unfold zA at hfv1
      unfold zsA at hfv1
      obtain ⟨mv, hmv⟩ := marks_vr (ρ := ρ) (E := E2) G0.length 0
      obtain ⟨E3, q1, q2, hs, q5, q3, q4⟩ := fitsZ_head g1 hft (.cons _ _ _ _ (.tuple _ (v :: mv).toArray (.cons _ _ _ _ h4 hmv)) .nil)
      have hv : VR ρ E3 x v := by
        cases q2 with
        | cons _ _ _ _ h _ =>
          cases h with
          | tuple _ _ h => cases h with | cons _ _ _ _ h _ => exact h
      obtain ⟨hlen, hmk⟩ := marksG_fits hfv1.2
      have kB := hB0.ext k4
      have hB2 : BaseS (fun i => ∃ b r, E0 b = some r ∧ r.blk = i) E0.fro w E2 w' := ⟨g4.trans kB.os, g5.trans kB.tape, g6.trans kB.output, by rw [g2]; exact kB.size, fun i hi hno => (g3 i hi).trans (kB.old i hi hno), kB.own, kB.keep, kB.ice⟩
      refine ⟨v, h3, x, G, v, E3, rfl, hR, hv, q1, hlen, fun k g hk hg hkp => ?_, hB2.sub hs q3 q4⟩
      have := hmk k g hk hg hkp
      rw [Nat.zero_add] at this
      rw [q5, namesE_at this]
      cases he : E0 k with
      | some r => exact k4.le _ _ (g4' k r he)
      | none =>
        cases he2 : E2 k with
        | none => rfl
        | some r =>
          have hn : E1 k = none := by
            cases h1 : E1 k with
            | none => rfl
            | some r1 =>
              have := (hE1 k r1 h1)
              rw [he] at this; cases this
          have := (k4.fresh k r he2 hn).1
          have : AH.none.next = 0 := rfl
          omega
  cases e with
  | normal =>
    simp only at k1
    split at k1
    · rename_i l hl
      exact hfin l hl k1
    · cases k1
  | ret =>
    simp only at k1
    split at k1
    · rename_i l hl
      exact hfin l hl k1
    · cases k1
  | exit id => cases k1
  | goto l => cases k1
/-- of a law: it answers true. -/
theorem runs_true {f : Nat} {args : List AV} (h : Runs P f args fun x G => x = .bool true ∧ G = []) {ρ : Ctx} (hρ : ∀ i, (ρ i).oneCell' = true) {w : World} (hd : ∀ i o, ρ.dat i = some o → w.heap[i]? = some o) {vs : Array Value} (hV : VDs ρ args vs.toList) :
    Calls P f vs w fun e w' => e = .returned (.bool true) ∧ Below w.heap.size w w' := by
  refine (callsIn_wide.1 (h.2 ρ w vs hρ hd hV)).mono ?_
  rintro e w' ⟨x, G, v, E', rfl, ⟨rfl, rfl⟩, hx, hG, hB⟩
  cases hx
  exact ⟨rfl, hB.os, hB.tape, hB.output, hB.size, fun k hk => hB.old k hk⟩
/-- a function without parameters that answers true. -/
theorem runs_known {f : Nat} (hfn : ∃ fn, P.funcs[f]? = some fn ∧ fn.body.isSome = true) (h : ∀ w, Calls P f #[] w fun e w' => e = .returned (.bool true) ∧ Below w.heap.size w w') : Runs P f [] fun x G => x = .bool true ∧ G = [] := by
  refine ⟨hfn, fun ρ w vs hρ hd hV => ?_⟩
  obtain rfl : vs = #[] := by
    obtain ⟨l⟩ := vs
    cases hV
    rfl
  refine callsIn_wide.2 ((h w).mono ?_)
  rintro e w' ⟨rfl, hb⟩
  exact ⟨.bool true, [], .bool true, noEnv, rfl, ⟨rfl, rfl⟩, .bool true, ⟨fun b r h => by (cases h), fun b r h => by (cases h), fun b b' r r' h => by (cases h), fun b r o h => by (cases h), fun b g h => by simp at h, fun i o hi => by have h0 := hd i o (no_all hi); rw [hb.block i (Array.getElem?_eq_some_iff.1 h0).1]; exact h0⟩, hb.os, hb.tape, hb.output, hb.size, fun i hi => hb.block i hi, fun b r h => (by cases h), fun i q h => (by cases h)⟩
end Go.Proofs.Ytkdmlpmjfnjnmaa.Sv
