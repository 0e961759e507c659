import Derived.Test.YtkdmlpmjfnjnmaaSvt
/-! contracts: what a call says of memory of its own; loops. -/
namespace Go.Proofs.Ytkdmlpmjfnjnmaa.Sv
open Go Go.RowKit
set_option linter.unusedVariables false
set_option linter.unusedSimpArgs false
variable {P : Program} {ρ : Ctx} {E : Env} {H : AH} {w : World}

mutual
/-- are no blocks named? -/
def nf : AV → Bool
  | .bool _ => true
  | .sbool _ => true
  | .int _ _ => true
  | .sint _ _ => true
  | .str _ => true
  | .nilPtr => true
  | .nilSlice => true
  | .nilMap => true
  | .nilFn => true
  | .data _ _ _ => true
  | .dptr _ => true
  | .agg l => nfs l
  | .tuple l => nfs l
  | .fn _ a b => nfs a && nfs b
  | _ => false
def nfs : List AV → Bool
  | [] => true
  | a :: r => nf a && nfs r
end
mutual
/-- is there nothing of what came in? -/
def df : AV → Bool
  | .data _ _ _ => false
  | .dptr _ => false
  | .agg l => dfs l
  | .tuple l => dfs l
  | .fn _ a b => dfs a && dfs b
  | _ => true
def dfs : List AV → Bool
  | [] => true
  | a :: r => df a && dfs r
end
mutual
def AV.ren (s : Nat → Nat) : AV → AV
  | .ptr b o => .ptr (s b) o
  | .slice b off len cap ex => .slice (s b) off len cap ex
  | .map b => .map (s b)
  | .yield b => .yield (s b)
  | .gsl b n => .gsl (s b) n
  | .gptr b i o => .gptr (s b) i o
  | .part b lo n => .part (s b) lo n
  | .agg l => .agg (AV.rens s l)
  | .tuple l => .tuple (AV.rens s l)
  | .fn f a b => .fn f (AV.rens s a) (AV.rens s b)
  | a => a
def AV.rens (s : Nat → Nat) : List AV → List AV
  | [] => []
  | a :: r => AV.ren s a :: AV.rens s r
end
theorem rens_len (s : Nat → Nat) : ∀ l, (AV.rens s l).length = l.length
  | [] => rfl
  | a :: r => by simp [AV.rens, rens_len s r]
mutual
theorem VR.nf : ∀ {a : AV} {v : Value}, VR ρ E a v → nf a = true → VD (E.all ρ) a v
  | _, _, .bool b, h => .bool b
  | _, _, .sbool b, h => .sbool b
  | _, _, .int k n, h => .int k n
  | _, _, .sint k n, h => .sint k n
  | _, _, .str s hs, h => .str s hs
  | _, _, .nilPtr, h => .nilPtr
  | _, _, .nilSlice, h => .nilSlice
  | _, _, .nilMap, h => .nilMap
  | _, _, .nilFn, h => .nilFn
  | _, _, .agg cs vs hv, h => .agg cs vs (VRs.nf hv (by simpa [Sv.nf] using h))
  | _, _, .tuple cs vs hv, h => .tuple cs vs (VRs.nf hv (by simpa [Sv.nf] using h))
  | _, _, .fn f a b x y hx hy, h => by
    simp only [Sv.nf, Bool.and_eq_true] at h
    exact .fn f a b x y (VRs.nf hx h.1) (VRs.nf hy h.2)
  | _, _, .data z n f b off cap c elem fr hd hcap hsz hlen hrow, h => .data z n f b off cap c elem fr hd hcap hsz hlen hrow
  | _, _, .data0 z f a c, h => .data0 z f a c
  | _, _, .dataN z f, h => .dataN z f
  | _, _, .dptr cs b off c elem fr hd hsz hrow, h => .dptr cs b off c elem fr hd hsz hrow
  | _, _, .ptr _ _ _ _, h => by simp [Sv.nf] at h
  | _, _, .sliceX _ _ _ _ _ _, h => by simp [Sv.nf] at h
  | _, _, .sliceG _ _ _ _ _ _ _ _ _, h => by simp [Sv.nf] at h
  | _, _, .empty _ _, h => by simp [Sv.nf] at h
  | _, _, .map _ _ _, h => by simp [Sv.nf] at h
  | _, _, .yield _ _ _, h => by simp [Sv.nf] at h
  | _, _, .atom _, h => by simp [Sv.nf] at h
  | _, _, .any _ _, h => by simp [Sv.nf] at h
  | _, _, .anySlice _ _ _, h => by simp [Sv.nf] at h
  | _, _, .unkI _ _, h => by simp [Sv.nf] at h
  | _, _, .unkB _, h => by simp [Sv.nf] at h
  | _, _, .half _, h => by simp [Sv.nf] at h
  | _, _, .top _, h => by simp [Sv.nf] at h
  | _, _, .gsl _ _ _ _ _ _ _, h => by simp [Sv.nf] at h
  | _, _, .gsl0 _ _, h => by simp [Sv.nf] at h
  | _, _, .gptr _ _ _ _ _, h => by simp [Sv.nf] at h
  | _, _, .part _ _ _ _ _ _ _ _ _ _, h => by simp [Sv.nf] at h
theorem VRs.nf : ∀ {l : List AV} {m : List Value}, VRs ρ E l m → nfs l = true → VDs (E.all ρ) l m
  | _, _, .nil, h => .nil
  | _, _, .cons a v l m h1 h2, h => by
    simp only [nfs, Bool.and_eq_true] at h
    exact .cons a v l m (VR.nf h1 h.1) (VRs.nf h2 h.2)
end
mutual
theorem VR.df {ρ' : Ctx} (ha : ρ'.atoms = ρ.atoms) {E' : Env} (he : ∀ b r, E' b = some r → E b = some r) : ∀ {a : AV} {v : Value}, VR ρ' E' a v → df a = true → VR ρ E a v
  | _, _, .bool b, h => .bool b
  | _, _, .sbool b, h => .sbool b
  | _, _, .int k n, h => .int k n
  | _, _, .sint k n, h => .sint k n
  | _, _, .str s hs, h => .str s hs
  | _, _, .nilPtr, h => .nilPtr
  | _, _, .nilSlice, h => .nilSlice
  | _, _, .nilMap, h => .nilMap
  | _, _, .nilFn, h => .nilFn
  | _, _, .agg cs vs hv, h => .agg cs vs (VRs.df ha he hv (by simpa [Sv.df] using h))
  | _, _, .tuple cs vs hv, h => .tuple cs vs (VRs.df ha he hv (by simpa [Sv.df] using h))
  | _, _, .fn f a b x y hx hy, h => by
    simp only [Sv.df, Bool.and_eq_true] at h
    exact .fn f a b x y (VRs.df ha he hx h.1) (VRs.df ha he hy h.2)
  | _, _, .data z n f b off cap c elem fr hd hcap hsz hlen hrow, h => by simp [Sv.df] at h
  | _, _, .data0 z f a c, h => by simp [Sv.df] at h
  | _, _, .dataN z f, h => by simp [Sv.df] at h
  | _, _, .dptr cs b off c elem fr hd hsz hrow, h => by simp [Sv.df] at h
  | _, _, .ptr b off r hr, h => .ptr b off r (he _ _ hr)
  | _, _, .sliceX b off len cap r hr, h => .sliceX b off len cap r (he _ _ hr)
  | _, _, .sliceG b off len cap cap' r hr h1 h2, h => .sliceG b off len cap cap' r (he _ _ hr) h1 h2
  | _, _, .empty a c, h => .empty a c
  | _, _, .map b r hr, h => .map b r (he _ _ hr)
  | _, _, .yield b r hr, h => .yield b r (he _ _ hr)
  | _, _, .atom i, h => by rw [show ρ' i = ρ i from congrFun ha i]; exact .atom i
  | _, _, .any v hv, h => .any v hv
  | _, _, .anySlice a n c, h => .anySlice a n c
  | _, _, .unkI k n, h => .unkI k n
  | _, _, .unkB b, h => .unkB b
  | _, _, .half n, h => .half n
  | _, _, .top v, h => .top v
  | _, _, .gsl b n cap r hr h1 h2, h => .gsl b n cap r (he _ _ hr) h1 h2
  | _, _, .gsl0 b a, h => .gsl0 b a
  | _, _, .gptr b i o r hr, h => .gptr b i o r (he _ _ hr)
  | _, _, .part b lo n cap a r hr hc hq ha, h => .part b lo n cap a r (he _ _ hr) hc hq ha
theorem VRs.df {ρ' : Ctx} (ha : ρ'.atoms = ρ.atoms) {E' : Env} (he : ∀ b r, E' b = some r → E b = some r) : ∀ {l : List AV} {m : List Value}, VRs ρ' E' l m → dfs l = true → VRs ρ E l m
  | _, _, .nil, h => .nil
  | _, _, .cons a v l m h1 h2, h => by
    simp only [dfs, Bool.and_eq_true] at h
    exact .cons a v l m (VR.df ha he h1 h.1) (VRs.df ha he h2 h.2)
end
mutual
theorem VR.ren {s : Nat → Nat} {E' : Env} (hs : ∀ b r, E b = some r → E' (s b) = some r) (hf : ∀ i o, (E.all ρ).dat i = some o → (E'.all ρ).dat i = some o) : ∀ {a : AV} {v : Value}, VR ρ E a v → VR ρ E' (a.ren s) v
  | _, _, .bool b => .bool b
  | _, _, .sbool b => .sbool b
  | _, _, .int k n => .int k n
  | _, _, .sint k n => .sint k n
  | _, _, .str s hs => .str s hs
  | _, _, .nilPtr => .nilPtr
  | _, _, .nilSlice => .nilSlice
  | _, _, .nilMap => .nilMap
  | _, _, .nilFn => .nilFn
  | _, _, .agg cs vs hv => .agg _ vs (VRs.ren hs hf hv)
  | _, _, .tuple cs vs hv => .tuple _ vs (VRs.ren hs hf hv)
  | _, _, .fn f a b x y hx hy => .fn f _ _ x y (VRs.ren hs hf hx) (VRs.ren hs hf hy)
  | _, _, .data z n f b off cap c elem fr hd hcap hsz hlen hrow => .data z n f b off cap c elem fr (hf _ _ hd) hcap hsz hlen fun i hi => VDs.ctx hf (hrow i hi)
  | _, _, .data0 z f a c => .data0 z f a c
  | _, _, .dataN z f => .dataN z f
  | _, _, .dptr cs b off c elem fr hd hsz hrow => .dptr cs b off c elem fr (hf _ _ hd) hsz (VDs.ctx hf hrow)
  | _, _, .ptr b off r hr => .ptr _ off r (hs _ _ hr)
  | _, _, .sliceX b off len cap r hr => .sliceX _ off len cap r (hs _ _ hr)
  | _, _, .sliceG b off len cap cap' r hr h1 h2 => .sliceG _ off len cap cap' r (hs _ _ hr) h1 h2
  | _, _, .empty a c => .empty a c
  | _, _, .map b r hr => .map _ r (hs _ _ hr)
  | _, _, .yield b r hr => .yield _ r (hs _ _ hr)
  | _, _, .atom i => .atom i
  | _, _, .any v hv => .any v hv
  | _, _, .anySlice a n c => .anySlice a n c
  | _, _, .unkI k n => .unkI k n
  | _, _, .unkB b => .unkB b
  | _, _, .half n => .half n
  | _, _, .top v => .top v
  | _, _, .gsl b n cap r hr h1 h2 => .gsl _ n cap r (hs _ _ hr) h1 h2
  | _, _, .gsl0 b a => .gsl0 _ a
  | _, _, .gptr b i o r hr => .gptr _ i o r (hs _ _ hr)
  | _, _, .part b lo n cap a r hr hc hq ha => .part _ lo n cap a r (hs _ _ hr) hc hq ha
theorem VRs.ren {s : Nat → Nat} {E' : Env} (hs : ∀ b r, E b = some r → E' (s b) = some r) (hf : ∀ i o, (E.all ρ).dat i = some o → (E'.all ρ).dat i = some o) : ∀ {l : List AV} {m : List Value}, VRs ρ E l m → VRs ρ E' (AV.rens s l) m
  | _, _, .nil => .nil
  | _, _, .cons a v l m h1 h2 => .cons _ v _ m (VR.ren hs hf h1) (VRs.ren hs hf h2)
end

/-- are no blocks named in a map's entries? -/
def nfE : List Ent → Bool
  | [] => true
  | e :: r => nf e.key && nf e.val && nfE r
def dfE : List Ent → Bool
  | [] => true
  | e :: r => df e.key && df e.val && dfE r
theorem ERs.nf {E' : Env} (hf : ∀ i o, (E.all ρ).dat i = some o → (E'.all ρ).dat i = some o) {es : List Ent} {ms : List MapEntry} (h : ERs ρ E es ms) (hn : nfE es = true) : ERs ρ E' es ms := by
  induction h with
  | nil => exact .nil
  | cons e m l r hk hv hb _ ih =>
    simp only [nfE, Bool.and_eq_true] at hn
    exact .cons e m l r ((hk.nf hn.1.1).ctx hf).vra ((hv.nf hn.1.2).ctx hf).vra hb (ih hn.2)
theorem ERs.df {ρ' : Ctx} (ha : ρ'.atoms = ρ.atoms) {E' : Env} (he : ∀ b r, E' b = some r → E b = some r) {es : List Ent} {ms : List MapEntry} (h : ERs ρ' E' es ms) (hn : dfE es = true) : ERs ρ E es ms := by
  induction h with
  | nil => exact .nil
  | cons e m l r hk hv hb _ ih =>
    simp only [dfE, Bool.and_eq_true] at hn
    exact .cons e m l r (VR.df ha he hk hn.1.1) (VR.df ha he hv hn.1.2) hb (ih hn.2)
/-- blocks that a contract tells of. -/
def GOK : NewB → Prop
  | .cells _ _ => True
  | .seq _ n f => ∀ i, i < n → nfs (f i) = true
  | .ents es _ => nfE es = true
  | _ => False
def GDF : NewB → Prop
  | .cells _ cs => dfs cs = true
  | .seq _ n f => ∀ i, i < n → dfs (f i) = true
  | .ents es _ => dfE es = true
  | _ => False
def NewB.ren (s : Nat → Nat) : NewB → NewB
  | .cells g cs => .cells g (AV.rens s cs)
  | a => a
noncomputable def allocAll : List NewB → Nat → AH → (AH → Bool) → Bool
  | [], _, H, K => K H
  | g :: r, s, H, K => H.alloc (g.ren (· + s)) fun H => allocAll r s H K
structure RelG (ρ : Ctx) (E : Env) (G : List NewB) (w : World) : Prop where
  dom : ∀ b r, E b = some r → b < G.length
  blk : ∀ b r, E b = some r → r.blk < w.heap.size ∧ ∃ g, G[b]? = some g ∧ BR ρ E r (g.blk b) w.heap[r.blk]?
  inj : ∀ b b' r r', E b = some r → E b' = some r' → r.blk = r'.blk → b = b'
  dat : ∀ b r o, E b = some r → (E.all ρ).dat r.blk = some o → False
  gok : ∀ (b : Nat) g, G[b]? = some g → GOK g
  val : ∀ i o, (E.all ρ).dat i = some o → w.heap[i]? = some o
/-- memory of before is as it was; what is named is new. -/
structure Base (w0 : World) (E : Env) (w : World) : Prop where
  os : w.os = w0.os
  tape : w.tape = w0.tape
  output : w.output = w0.output
  size : w0.heap.size ≤ w.heap.size
  old : ∀ i, i < w0.heap.size → w.heap[i]? = w0.heap[i]?
  own : ∀ b r, E b = some r → w0.heap.size ≤ r.blk
  ice : ∀ i q, E.fro i = some q → w0.heap.size ≤ i
theorem BR.ren {s : Nat → Nat} {E' : Env} (hs : ∀ b r, E b = some r → E' (s b) = some r) (hf : ∀ i o, (E.all ρ).dat i = some o → (E'.all ρ).dat i = some o) {g : NewB} (hg : GOK g) {r : RB} {b b' : Nat} {o : Option Obj} (h : BR ρ E r (g.blk b) o) : BR ρ E' r ((g.ren s).blk b') o := by
  cases g with
  | cells gr cs =>
    obtain ⟨c', elem, fr, h1, h2, h3, h4, h5, h6⟩ := h
    refine ⟨c', elem, fr, h1, h2, h3, by rw [rens_len]; exact h4, ?_, h6⟩
    rw [rens_len]
    exact h5.ren hs hf
  | seq z n f =>
    obtain ⟨c', elem, fr, h1, h2, h3, h4, h5, h6, h7, h8⟩ := h
    exact ⟨c', elem, fr, h1, h2, h3, h4, h5, h6, h7, fun i hi => (((h8 i hi).nf (hg i hi)).ctx hf).vra⟩
  | map => cases hg
  | iter _ _ _ => cases hg
  | loop _ _ _ _ => cases hg
  | ents es ck =>
    obtain ⟨ms, h1, h2⟩ := h
    exact ⟨ms, h1, ERs.nf hf h2 hg⟩
theorem ghosts {s : Nat} : ∀ {G : List NewB} {H : AH} {K : AH → Bool}, Rel ρ E H w → allocAll G s H K = true →
    ∃ H', K H' = true ∧ Rel ρ E H' w ∧ H'.next = H.next + G.length ∧ (∀ (k : Nat) g, G[k]? = some g → H'.tr.get (H.next + k) = some ((g.ren (· + s)).blk (H.next + k)) ∧ H'.mem.get (H.next + k) = some [H.next + k]) ∧ ∀ j, j < H.next → H'.tr.get j = H.tr.get j ∧ H'.mem.get j = H.mem.get j
  | [], H, K, hR, h => ⟨H, h, hR, rfl, fun k g hk => by simp at hk, fun _ _ => ⟨rfl, rfl⟩⟩
  | g :: r, H, K, hR, h => by
    obtain ⟨H1, h1, hR1, _, hn1, hg1, hm1, hold1⟩ := hR.ghost h
    obtain ⟨H2, h2, hR2, hn2, hg2, hold2⟩ := ghosts (G := r) hR1 h1
    refine ⟨H2, h2, hR2, by rw [hn2, hn1]; simp; omega, fun k g' hk => ?_, fun j hj => ⟨(hold2 j (by omega)).1.trans (hold1 j hj).1, (hold2 j (by omega)).2.trans (hold1 j hj).2⟩⟩
    cases k with
    | zero =>
      simp at hk; subst hk
      have := hold2 H.next (by omega)
      exact ⟨this.1.trans hg1, this.2.trans hm1⟩
    | succ k =>
      have := hg2 k g' (by simpa using hk)
      rw [hn1] at this
      rw [show H.next + (k + 1) = H.next + 1 + k by omega]
      exact this
/-- blocks that a contract tells of are named. -/
theorem relG_alloc (hR : Rel ρ E H w) {E1 : Env} {G : List NewB} (hG : RelG ρ E1 G w) (hdis : ∀ b r b' r', E b = some r → E1 b' = some r' → r.blk ≠ r'.blk) (hfr : ∀ i q, E1.fro i = some q → E.fro i = some q) (hdd : ∀ b r o, E1 b = some r → (E.all ρ).dat r.blk = some o → False) {K : AH → Bool} (h : allocAll G H.next H K = true) :
    ∃ H' E', K H' = true ∧ Rel ρ E' H' w ∧ E.le E' ∧ (∀ b r, E1 b = some r → E' (b + H.next) = some r) ∧ H'.next = H.next + G.length ∧ (∀ j, j < H.next → H'.tr.get j = H.tr.get j ∧ H'.mem.get j = H.mem.get j) ∧
      (∀ j r, E' j = some r → E j = none → H.next ≤ j ∧ ∃ b, E1 b = some r ∧ j = b + H.next) ∧ E'.fro = E.fro := by
  obtain ⟨H', hK, hR', hn, hg, hold⟩ := ghosts hR h
  let E' : Env := ⟨fun j => if j < H.next then E j else E1 (j - H.next), E.fro⟩
  have hnew : ∀ b, E' (b + H.next) = E1 b := fun b => by
    show (if b + H.next < H.next then _ else E1 (b + H.next - H.next)) = _
    rw [if_neg (by omega)]; congr 1; omega
  have hlt : ∀ j, j < H.next → E' j = E j := fun j hj => if_pos hj
  have hle : E.le E' := ⟨fun j r hj => by rw [hlt j (hR.dom j r hj)]; exact hj, fun _ _ h => h⟩
  have hcase : ∀ j r, E' j = some r → (j < H.next ∧ E j = some r) ∨ ∃ b, j = b + H.next ∧ E1 b = some r := fun j r hj => by
    by_cases h : j < H.next
    · rw [hlt j h] at hj; exact .inl ⟨h, hj⟩
    · refine .inr ⟨j - H.next, by omega, ?_⟩
      rw [← hnew, show j - H.next + H.next = j by omega]; exact hj
  have hgb : ∀ b r, E1 b = some r → ∃ g, G[b]? = some g ∧ GOK g ∧ H'.tr.get (b + H.next) = some ((g.ren (· + H.next)).blk (b + H.next)) ∧ H'.mem.get (b + H.next) = some [b + H.next] := fun b r hb => by
    obtain ⟨_, g, h1, _⟩ := hG.blk b r hb
    obtain ⟨h2, h3⟩ := hg b g h1
    rw [Nat.add_comm] at h2 h3
    exact ⟨g, h1, hG.gok b g h1, h2, h3⟩
  have hcls : ∀ b r, E1 b = some r → H'.clsOf (b + H.next) = some (b + H.next) := fun b r hb => by
    obtain ⟨g, _, _, h2, _⟩ := hgb b r hb
    simp only [AH.clsOf, h2, Option.bind_some]
    exact newB_cls _ _
  refine ⟨H', E', hK, ⟨fun j r hj => ?_, fun j r hj => ?_, fun j j' r r' d d' hj hj' e hd hd' => ?_, fun j r d hj hd => ?_, fun i o hi => ⟨(hR.dat i o hi).1, fun j r d hj hd e => ?_⟩⟩, hle, fun b r hb => by rw [hnew]; exact hb, hn, hold, fun j r hj he => ?_, rfl⟩
  · rcases hcase j r hj with ⟨h, _⟩ | ⟨b, rfl, hb⟩
    · omega
    · have := hG.dom b r hb; omega
  · rcases hcase j r hj with ⟨h, hj⟩ | ⟨b, rfl, hb⟩
    · obtain ⟨k1, k, k2, k3⟩ := hR'.blk j r hj
      exact ⟨k1, k, k2, k3.mono hle⟩
    · obtain ⟨h1, g, h2, h3⟩ := hG.blk b r hb
      obtain ⟨g', k1, k2, k3, k4⟩ := hgb b r hb
      rw [h2] at k1; cases k1
      exact ⟨h1, _, k3, BR.ren (E' := E') (s := (· + H.next)) (fun b r hb => by rw [hnew]; exact hb) (all_mono hfr) k2 h3⟩
  · rcases hcase j r hj with ⟨h, hj1⟩ | ⟨b, rfl, hb⟩ <;> rcases hcase j' r' hj' with ⟨h', hj1'⟩ | ⟨b', rfl, hb'⟩
    · exact hR'.inj j j' r r' d d' hj1 hj1' e hd hd'
    · exact absurd e (hdis _ _ _ _ hj1 hb')
    · exact absurd e.symm (hdis _ _ _ _ hj1' hb)
    · have := hG.inj b b' r r' hb hb' e
      subst this
      rw [hd] at hd'; cases hd'; rfl
  · rcases hcase j r hj with ⟨h, hj1⟩ | ⟨b, rfl, hb⟩
    · obtain ⟨g1, l, g2, g3, g4⟩ := hR'.mem j r d hj1 hd
      obtain ⟨rd, hrd⟩ := Option.isSome_iff_exists.1 g1
      exact ⟨by rw [hle _ _ hrd]; rfl, l, g2, g3, fun x hx => by obtain ⟨rx, hrx⟩ := Option.isSome_iff_exists.1 (g4 x hx); rw [hle _ _ hrx]; rfl⟩
    · rw [hcls b r hb] at hd; cases hd
      obtain ⟨g', k1, k2, k3, k4⟩ := hgb b r hb
      exact ⟨by rw [hnew, hb]; rfl, _, k4, by simp, fun x hx => by simp at hx; subst hx; rw [hnew, hb]; rfl⟩
  · rcases hcase j r hj with ⟨h, hj1⟩ | ⟨b, rfl, hb⟩
    · exact (hR.dat i o hi).2 j r d hj1 (by simpa [AH.clsOf, (hold j h).1] using hd) e
    · exact hdd b r o hb (by rw [e]; exact hi)
  · rcases hcase j r hj with ⟨h, hj1⟩ | ⟨b, rfl, hb⟩
    · rw [he] at hj1; cases hj1
    · exact ⟨by omega, b, hb, rfl⟩
end Go.Proofs.Ytkdmlpmjfnjnmaa.Sv
