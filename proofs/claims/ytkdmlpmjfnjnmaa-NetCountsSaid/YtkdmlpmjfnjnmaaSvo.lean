import Derived.Test.YtkdmlpmjfnjnmaaSvn
/-! an operation that is asked again tells what it told. -/
namespace Go.Proofs.Ytkdmlpmjfnjnmaa.Sv
open Go Go.RowKit
set_option linter.unusedVariables false
set_option linter.unusedSimpArgs false
variable {P : Program} {H : AH}

mutual
theorem beq_sound : ∀ {a b : AV}, AV.beq a b = true → a = b
  | .bool a, b, h => by cases b <;> simp [AV.beq] at h; subst h; rfl
  | .int _ _, b, h => by cases b <;> simp [AV.beq] at h; obtain ⟨rfl, rfl⟩ := h; rfl
  | .str _, b, h => by cases b <;> simp [AV.beq] at h; subst h; rfl
  | .nilPtr, b, h => by cases b <;> simp [AV.beq] at h; rfl
  | .ptr _ _, b, h => by cases b <;> simp [AV.beq] at h; obtain ⟨rfl, rfl⟩ := h; rfl
  | .nilSlice, b, h => by cases b <;> simp [AV.beq] at h; rfl
  | .slice _ _ _ _ _, b, h => by cases b <;> simp [AV.beq] at h; obtain ⟨⟨⟨⟨rfl, rfl⟩, rfl⟩, rfl⟩, rfl⟩ := h; rfl
  | .empty, b, h => by cases b <;> simp [AV.beq] at h; rfl
  | .nilMap, b, h => by cases b <;> simp [AV.beq] at h; rfl
  | .map _, b, h => by cases b <;> simp [AV.beq] at h; subst h; rfl
  | .nilFn, b, h => by cases b <;> simp [AV.beq] at h; rfl
  | .fn _ x y, b, h => by
    cases b <;> simp [AV.beq] at h
    obtain ⟨⟨rfl, h1⟩, h2⟩ := h
    rw [beqs_sound h1, beqs_sound h2]
  | .yield _, b, h => by cases b <;> simp [AV.beq] at h; subst h; rfl
  | .agg x, b, h => by cases b <;> simp [AV.beq] at h; rw [beqs_sound h]
  | .tuple x, b, h => by cases b <;> simp [AV.beq] at h; rw [beqs_sound h]
  | .atom _, b, h => by cases b <;> simp [AV.beq] at h; subst h; rfl
  | .any, b, h => by cases b <;> simp [AV.beq] at h; rfl
  | .anySlice, b, h => by cases b <;> simp [AV.beq] at h; rfl
  | .unkI _, b, h => by cases b <;> simp [AV.beq] at h; subst h; rfl
  | .unkB, b, h => by cases b <;> simp [AV.beq] at h; rfl
  | .sbool _, b, h => by cases b <;> simp [AV.beq] at h
  | .half _, b, h => by cases b <;> simp [AV.beq] at h; subst h; rfl
  | .sint _ _, b, h => by cases b <;> simp [AV.beq] at h; obtain ⟨rfl, rfl⟩ := h; rfl
  | .top, b, h => by cases b <;> simp [AV.beq] at h; rfl
  | .data _ _ _, b, h => by cases b <;> simp [AV.beq] at h
  | .dptr _, b, h => by cases b <;> simp [AV.beq] at h
  | .gsl _ _, b, h => by cases b <;> simp [AV.beq] at h; obtain ⟨rfl, rfl⟩ := h; rfl
  | .gptr _ _ _, b, h => by cases b <;> simp [AV.beq] at h; obtain ⟨⟨rfl, rfl⟩, rfl⟩ := h; rfl
  | .part _ _ _, b, h => by cases b <;> simp [AV.beq] at h
theorem beqs_sound : ∀ {a b : List AV}, AV.beqs a b = true → a = b
  | [], b, h => by cases b <;> simp [AV.beqs] at h; rfl
  | a :: r, b, h => by
    cases b with
    | nil => simp [AV.beqs] at h
    | cons c s =>
      simp [AV.beqs] at h
      rw [beq_sound h.1, beqs_sound h.2]
end
theorem newB_sound {a b : NewB} (h : a.beq b = true) : a = b := by
  unfold NewB.beq at h
  split at h
  · rw [beqs_sound h]
  · rw [Bool.and_eq_true] at h; rw [beq_iff'.1 h.1, beqs_sound h.2]
  · rfl
  · rw [Bool.and_eq_true] at h; rw [beq_iff'.1 h.1, beq_iff'.1 h.2]
  · rw [Bool.and_eq_true, Bool.and_eq_true] at h; rw [beq_iff'.1 h.1.1, beq_iff'.1 h.1.2, beq_iff'.1 h.2]
  · cases h
theorem sh_sound {a b : Sh} (h : a.beq b = true) : a = b := by
  unfold Sh.beq at h
  split at h
  · rfl
  · rw [Bool.and_eq_true, Bool.and_eq_true] at h
    have := h.2
    simp at this
    rw [beq_iff'.1 h.1.1, beq_iff'.1 h.1.2, this]
  · rfl
  · cases h
theorem res_sound {a b : Res} (h : a.beq b = true) : a = b := by
  unfold Res.beq at h
  exact @of_decide_eq_true _ (Classical.propDecidable _) h
mutual
theorem beqK_sound : ∀ {a b : AV} {K : Bool}, AV.beqK a b K = true → a = b ∧ K = true
  | a, b, K, h => by
    unfold AV.beqK at h
    split at h
    · obtain ⟨h1, h⟩ := cond_true' h
      obtain ⟨h2, h⟩ := fork_true' h
      exact ⟨by rw [of_decide_eq_true h1, of_decide_eq_true h2], h⟩
    · obtain ⟨h1, h⟩ := beqsK_sound h
      exact ⟨by rw [h1], h⟩
    · obtain ⟨h1, h⟩ := beqsK_sound h
      exact ⟨by rw [h1], h⟩
    · obtain ⟨h1, h⟩ := fork_true' h
      obtain ⟨e1, e2, e3⟩ := @of_decide_eq_true _ (Classical.propDecidable _) h1
      exact ⟨by rw [e1, e2, e3], h⟩
    · obtain ⟨h1, h⟩ := beqsK_sound h
      exact ⟨by rw [h1], h⟩
    · obtain ⟨h1, h⟩ := fork_true' h
      exact ⟨by rw [of_decide_eq_true h1], h⟩
    · obtain ⟨h1, h⟩ := cond_true' h
      obtain ⟨h2, h⟩ := fork_true' h
      exact ⟨by rw [Nat.eq_of_beq_eq_true h1, of_decide_eq_true h2], h⟩
    · obtain ⟨h1, h⟩ := cond_true' h
      obtain ⟨h2, h⟩ := fork_true' h
      rw [Bool.and_eq_true] at h1
      exact ⟨by rw [Nat.eq_of_beq_eq_true h1.1, Nat.eq_of_beq_eq_true h1.2, of_decide_eq_true h2], h⟩
    · obtain ⟨h1, h⟩ := cond_true' h
      obtain ⟨h2, h⟩ := fork_true' h
      obtain ⟨e1, e2⟩ := of_decide_eq_true h2
      exact ⟨by rw [Nat.eq_of_beq_eq_true h1, e1, e2], h⟩
    · obtain ⟨h1, h⟩ := fork_true' h
      exact ⟨by rw [of_decide_eq_true h1], h⟩
    · obtain ⟨h1, h⟩ := cond_true' h
      exact ⟨beq_sound h1, h⟩
theorem beqsK_sound : ∀ {a b : List AV} {K : Bool}, AV.beqsK a b K = true → a = b ∧ K = true
  | [], [], K, h => ⟨rfl, h⟩
  | a :: r, b :: s, K, h => by
    unfold AV.beqsK at h
    obtain ⟨h1, h⟩ := beqK_sound h
    obtain ⟨h2, h⟩ := beqsK_sound h
    exact ⟨by rw [h1, h2], h⟩
  | [], _ :: _, K, h => by cases h
  | _ :: _, [], K, h => by cases h
end
theorem newBK_sound : ∀ {a b : NewB} {K : Bool}, a.beqK b K = true → a = b ∧ K = true := fun {a b K} h => by
  unfold NewB.beqK at h
  split at h
  · obtain ⟨h1, h⟩ := beqsK_sound h
    exact ⟨by rw [h1], h⟩
  · obtain ⟨h0, h⟩ := cond_true' h
    obtain ⟨h1, h⟩ := beqsK_sound h
    exact ⟨by rw [beq_iff'.1 h0, h1], h⟩
  · obtain ⟨h1, h⟩ := cond_true' h
    exact ⟨newB_sound h1, h⟩
theorem resK_sound {a b : Res} {K : Bool} (h : a.beqK b K = true) : a = b ∧ K = true := by
  unfold Res.beqK at h
  split at h
  · obtain ⟨h1, h⟩ := beqK_sound h
    exact ⟨by rw [h1], h⟩
  · obtain ⟨h0, h⟩ := cond_true' h
    obtain ⟨h1, h⟩ := newBK_sound h
    exact ⟨by rw [sh_sound h0, h1], h⟩
  · cases h
/-- of a new block of a loop no record is made. -/
def Res.plain : Res → Bool
  | .new (.loop _ _ _ _) _ => false
  | .new (.seq _ _ _) _ => false
  | _ => true
theorem res_self {a : Res} (h : a.plain = true) : a.beq a = true := by
  unfold Res.beq
  exact @decide_eq_true _ (Classical.propDecidable _) rfl

/-- what is told does not hang on who asks. -/
def Tells1 (f : (Res → Bool) → Bool) : Prop := ∀ K, f K = true → ∃ q, K q = true ∧ q.plain = true ∧ ∀ K', K' q = true → f K' = true
theorem t1_k {q : Res} (hq : q.plain = true) : Tells1 fun K => K q := fun K h => ⟨q, h, hq, fun _ h => h⟩
theorem t1_false : Tells1 fun _ => false := fun K h => by cases h
theorem t1_cond {c : Bool} {f g : (Res → Bool) → Bool} (hf : Tells1 f) (hg : Tells1 g) : Tells1 fun K => cond c (f K) (g K) := by
  cases c
  · exact hg
  · exact hf
theorem t1_fork {c : Bool} {f g : (Res → Bool) → Bool} (hf : Tells1 f) (hg : Tells1 g) : Tells1 fun K => fork c (f K) (g K) := by
  simp only [fork_eq]
  exact t1_cond hf hg
theorem t1_fk {l c : Bool} {f g : (Res → Bool) → Bool} (hf : Tells1 f) (hg : Tells1 g) : Tells1 fun K => fk l c (f K) (g K) := by
  simp only [fk_eq]
  exact t1_cond hf hg
theorem t1_ix {i : Int} {f : Nat → (Res → Bool) → Bool} (hf : ∀ k, Tells1 (f k)) : ∀ n, Tells1 fun K => forkIx i (fun k => f k K) n
  | 0 => t1_false
  | n + 1 => by
    unfold forkIx
    exact t1_fork (hf n) (t1_ix hf n)
theorem t1_ixptr {i : Int} {b off z n : Nat} : Tells1 fun K => forkIx i (fun k => (AV.ptr b (off + k * z)).force fun a => K (.val a)) n := t1_ix (f := fun k K => (AV.ptr b (off + k * z)).force fun a => K (.val a)) (fun k => by
  intro K h
  simp only [force_eq] at h
  exact ⟨_, h, rfl, fun K' h' => by simp only [force_eq]; exact h'⟩) n
theorem t1_ixpart {i : Int} {e : TypeId} {cs : List AV} {z n : Nat} : Tells1 fun K => forkIx i (fun k => match part P e cs (k * z) with | some a => K (.val a) | none => false) n := t1_ix (f := fun k K => match part P e cs (k * z) with | some a => K (.val a) | none => false) (fun k => by
  cases part P e cs (k * z)
  · exact t1_false
  · exact t1_k rfl) n
theorem t1_part {t : TypeId} {cs : List AV} {o : Nat} : Tells1 fun K => match part P t cs o with | some a => K (.val a) | none => false := by
  cases part P t cs o
  · exact t1_false
  · exact t1_k rfl
theorem t1_opt {α : Type} {o : Option α} {f : α → (Res → Bool) → Bool} (hf : ∀ a, Tells1 (f a)) : Tells1 fun K => match o with | some a => f a K | none => false := by
  cases o
  · exact t1_false
  · exact hf _
theorem t1_wr {k : IntKind} {x : Int} : Tells1 (wr k x) := by
  unfold wr
  exact t1_fork (t1_k rfl) (t1_k rfl)
theorem t1_cvt {k : IntKind} {x : Int} : Tells1 (cvt k x) := by
  unfold cvt
  split
  · exact t1_k rfl
  · exact t1_wr
theorem t1_orK {k : IntKind} {a b : Int} : Tells1 (orK k a b) := by
  unfold orK
  split
  · exact t1_fork (t1_k rfl) (t1_k rfl)
  · exact t1_k rfl
theorem t1_sym {op : BinOp} {k k' : IntKind} {a b : Int} {lit : Bool} : Tells1 (symBin op k k' a b lit) := by
  unfold symBin
  split
  · exact t1_fk t1_false t1_wr
  · exact t1_fk t1_false (t1_k rfl)
  · unfold symArith
    split
    · exact t1_false
    · split <;> first | exact t1_k rfl | exact t1_orK | exact t1_wr | exact t1_fk t1_false t1_wr | exact t1_fk t1_false (t1_k rfl) | exact t1_fork (t1_k rfl) (t1_k rfl) | exact t1_false
theorem t1_force {a : AV} : Tells1 fun K => a.force fun a => K (.val a) := fun K h => by
  simp only [force_eq] at h
  exact ⟨_, h, rfl, fun K' h' => by simp only [force_eq]; exact h'⟩
theorem t1_nat {n : Nat} {f : Nat → AV} : Tells1 fun K => fNat n fun n => K (.val (f n)) := fun K h => by
  simp only [fNat_eq] at h
  exact ⟨_, h, rfl, fun K' h' => by simp only [fNat_eq]; exact h'⟩
theorem t1_lscal {o : Sem Value} : Tells1 fun K => lscal P o fun a => K (.val a) := fun K h => by
  unfold lscal at h
  split at h
  · cases h
  · rename_i v hv
    split at h
    · cases h
    · rename_i a ha
      simp only [force_eq] at h
      refine ⟨_, h, rfl, fun K' h' => ?_⟩
      simp only [lscal, hv, ha, force_eq]
      exact h'
theorem wset_ex : ∀ (l : List AV) (o : Nat) (vs : List AV) (K : List AV → Bool), wset l o vs K = true → ∃ l', K l' = true ∧ ∀ K', K' l' = true → wset l o vs K' = true
  | l, o, [], K, h => by
    have e : ∀ K : List AV → Bool, wset l o [] K = K l := fun K => by cases l <;> cases o <;> rfl
    rw [e] at h
    exact ⟨l, h, fun K' h' => by rw [e]; exact h'⟩
  | [], o, v :: vs, K, h => by cases o <;> cases h
  | a :: r, 0, v :: vs, K, h => by
    obtain ⟨l', h1, h2⟩ := wset_ex r 0 vs _ h
    exact ⟨_, h1, fun K' h' => h2 _ h'⟩
  | a :: r, o + 1, v :: vs, K, h => by
    obtain ⟨l', h1, h2⟩ := wset_ex r o (v :: vs) _ h
    exact ⟨_, h1, fun K' h' => h2 _ h'⟩
theorem fillG_ex {place : Nat → Option (Nat × Nat)} : ∀ (l : List (Nat × AV)) (cs : List AV) (K : List AV → Bool), fillG place l cs K = true → ∃ l', K l' = true ∧ ∀ K', K' l' = true → fillG place l cs K' = true
  | [], cs, K, h => ⟨cs, h, fun K' h' => h'⟩
  | (i, v) :: r, cs, K, h => by
    unfold fillG at h
    split at h
    · cases h
    · rename_i off n hp
      obtain ⟨hc, h⟩ := cond_true' h
      obtain ⟨l1, h1, h2⟩ := wset_ex _ _ _ _ h
      obtain ⟨l2, h3, h4⟩ := fillG_ex r l1 K h1
      refine ⟨l2, h3, fun K' h' => ?_⟩
      unfold fillG
      simp only [hp, hc, cond_true]
      exact h2 _ (h4 _ h')
theorem t1_fill {place : Nat → Option (Nat × Nat)} {l : List (Nat × AV)} {cs : List AV} {f : List AV → Res} (hf : ∀ cs, (f cs).plain = true) : Tells1 fun K => fillG place l cs fun cs => K (f cs) := fun K h => by
  obtain ⟨l', h1, h2⟩ := fillG_ex _ _ _ h
  exact ⟨_, h1, hf _, fun K' h' => h2 _ h'⟩

theorem t1_two {b : Bool} : Tells1 fun K => two b fun a => K (.val a) := by
  cases b
  · show Tells1 fun K => K (Res.val (.bool false)); exact t1_k rfl
  · show Tells1 fun K => K (Res.val (.bool true)); exact t1_k rfl
theorem t1_fNat {k : IntKind} {r : Nat} : Tells1 fun K => fNat r fun r => K (.val (.int k (.ofNat r))) := by
  cases r
  · show Tells1 fun K => K (Res.val _); exact t1_k rfl
  · show Tells1 fun K => K (Res.val _); exact t1_k rfl
theorem t1_fast {op : BinOp} {k k' : IntKind} {m n : Nat} {s : Sem Value} : Tells1 fun K => fastBin op k k' m n (lscal P s fun a => K (.val a)) fun a => K (.val a) := by
  unfold fastBin
  split
  · exact t1_lscal
  · split
    all_goals first
      | exact t1_two
      | exact t1_lscal
      | (split
         · exact t1_fNat
         · exact t1_lscal)
theorem t1_eqAgg {op : BinOp} {t : TypeId} {a b : AV} : Tells1 (eqAgg P op t a b) := by
  unfold eqAgg
  split
  · split
    · refine t1_cond t1_false ?_
      split
      · exact t1_fork (t1_k rfl) (t1_k rfl)
      · exact t1_fork (t1_k rfl) (t1_k rfl)
      · exact t1_false
    · exact t1_false
  · exact t1_false
theorem t1_bin {op : BinOp} {t : TypeId} {x y : Operand} {a b : AV} : Tells1 (aBin P op t x y a b) := by
  unfold aBin
  split
  · split
    · exact t1_fork (t1_k rfl) (t1_k rfl)
    · exact t1_fork (t1_k rfl) (t1_k rfl)
    · exact t1_false
  · exact t1_sym
  · exact t1_sym
  · exact t1_sym
  · refine t1_cond ?_ t1_false
    split <;> first | exact t1_k rfl | exact t1_false
  · refine t1_cond ?_ t1_false
    split <;> first | exact t1_k rfl | exact t1_false | (split <;> exact t1_k rfl)
  · exact t1_fast
  · split
    · exact t1_lscal
    · split
      · exact t1_false
      · refine t1_cond ?_ (by
          split
          · split
            · exact t1_fork (t1_k rfl) (t1_k rfl)
            · exact t1_fork (t1_k rfl) (t1_k rfl)
            · exact t1_false
          · exact t1_eqAgg)
        split
        · exact t1_k rfl
        · exact t1_k rfl
        · exact t1_false
theorem t1_conv {s d : TypeId} {a : AV} : Tells1 (aConv P H s d a) := by
  unfold aConv
  repeat' split
  all_goals first
    | exact t1_false
    | exact t1_lscal
    | exact t1_k rfl
    | exact t1_wr
    | exact t1_cvt
    | exact t1_fork (t1_k rfl) t1_false
theorem t1_un {op : UnOp} {a : AV} : Tells1 (aUn P op a) := by
  unfold aUn
  repeat' split
  all_goals first
    | exact t1_false
    | exact t1_lscal
    | exact t1_wr
    | exact t1_cvt
    | exact t1_k rfl
theorem t1_slice0 {t : TypeId} {x : AV} {lo hi mx : Option AV} : Tells1 (aSlice0 P H t x lo hi mx) := by
  unfold aSlice0
  repeat' split
  all_goals first
    | exact t1_false
    | exact t1_k rfl
    | exact t1_cond t1_force t1_false
    | exact t1_cond (t1_fork (t1_k rfl) t1_false) t1_false
    | exact t1_cond (t1_k rfl) t1_false
    | exact t1_cond (t1_cond t1_force (t1_cond t1_force (t1_cond (t1_k rfl) t1_false))) t1_false
    | exact t1_fork (t1_cond (t1_fork (t1_k rfl) (t1_k rfl)) (t1_k rfl)) (t1_cond (t1_fork (t1_k rfl) t1_false) t1_false)
    | exact t1_fork (t1_cond (t1_fork (t1_k rfl) (t1_k rfl)) (t1_k rfl)) t1_false
    | exact t1_fork (t1_k rfl) t1_false
theorem t1_slice {t : TypeId} {x : AV} {lo hi mx : Option AV} : Tells1 (aSlice P H t x lo hi mx) := by
  unfold aSlice
  split
  · exact t1_ix (f := fun h' K => aSlice0 P H t _ lo (some (.int _ (Int.ofNat h'))) mx K) (fun k => t1_slice0) _
  · exact t1_ix (f := fun h' K => aSlice0 P H t _ lo (some (.int _ (Int.ofNat h'))) mx K) (fun k => t1_slice0) _
  · exact t1_slice0
theorem t1_len {t : TypeId} {a : AV} : Tells1 (aLen P H t a) := by
  unfold aLen
  repeat' split
  all_goals first
    | exact t1_false
    | exact t1_k rfl
    | exact t1_nat
theorem t1_look0 {kt e : TypeId} {es : List Ent} {ok : Bool} {k : AV} : Tells1 (aLook0 P kt e es ok k) := by
  unfold aLook0
  repeat' split
  all_goals first | exact t1_false | exact t1_k rfl
theorem t1_pin {j : IntKind} {x : Int} {f : AV → (Res → Bool) → Bool} (hf : ∀ k, Tells1 (f k)) : ∀ es : List Ent, Tells1 fun K => pin j x (fun k => f k K) es
  | [] => t1_false
  | e :: r => by
    unfold pin
    split
    · exact t1_fork (hf _) (t1_pin hf r)
    · exact t1_false
theorem t1_look {kt e : TypeId} {es : List Ent} {ok : Bool} {k : AV} : Tells1 (aLook P kt e es ok k) := by
  unfold aLook
  split
  · exact t1_pin (f := fun k => aLook0 P kt e es ok k) (fun _ => t1_look0) _
  · exact t1_look0
theorem t1_maxK {big : Bool} {l : List AV} : Tells1 (maxK big l) := by
  unfold maxK
  repeat' split
  all_goals first | exact t1_false | exact t1_fork (t1_k rfl) (t1_k rfl)
theorem t1_evR {tmps : List AV} {o : Oper} : Tells1 (evR P H tmps o) := by
  have e : evR P H tmps o = evR0 P H tmps o := funext fun K => evR_eq P H tmps o K
  rw [e]
  unfold evR0
  split
  all_goals (try simp only)
  all_goals (repeat' split)
  all_goals first
    | exact t1_false
    | exact t1_k rfl
    | exact t1_bin
    | exact t1_conv
    | exact t1_slice
    | exact t1_len
    | exact t1_look
    | exact t1_lscal
    | exact t1_maxK
    | exact t1_force
    | exact t1_fill fun _ => rfl
    | exact t1_cond (t1_fill fun _ => rfl) t1_false
    | exact t1_cond (t1_k rfl) t1_false
    | exact t1_cond t1_force t1_false
    | exact t1_cond t1_false t1_false
    | exact t1_un
    | exact t1_cond (t1_fork (t1_k rfl) t1_false) t1_false
    | exact t1_ixptr
    | exact t1_nat (f := fun o => AV.gptr _ _ o)
    | exact t1_fork (t1_k rfl) t1_false
    | exact t1_fork t1_false t1_false
    | exact t1_ixpart
end Go.Proofs.Ytkdmlpmjfnjnmaa.Sv
