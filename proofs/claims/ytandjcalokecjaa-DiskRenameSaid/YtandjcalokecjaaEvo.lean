import Derived.Test.YtandjcalokecjaaEvn
/-! an operation that is asked again tells what it told. -/
namespace Go.Proofs.Ytandjcalokecjaa.Ev
open Go Go.RowKit
set_option linter.unusedVariables false
set_option linter.unusedSimpArgs false
variable {P : Program} {H : AH}

mutual
theorem beq_sound : ∀ {a b : AV}, AV.beq a b = true → a = b
  | .bool a, b, h => by cases b <;> simp [AV.beq] at h; subst h; rfl
  | .int _ _, b, h => by cases b <;> simp [AV.beq] at h; obtain ⟨rfl, rfl⟩ := h; rfl
  | .str _, b, h => by cases b <;> simp [AV.beq] at h; subst h; rfl
  | .nilPtr, b, h => by cases b <;> simp [AV.beq] at h; rfl
  | .ptr _ _, b, h => by cases b <;> simp [AV.beq] at h; obtain ⟨rfl, rfl⟩ := h; rfl
  | .nilSlice, b, h => by cases b <;> simp [AV.beq] at h; rfl
  | .slice _ _ _ _ _, b, h => by cases b <;> simp [AV.beq] at h; obtain ⟨⟨⟨⟨rfl, rfl⟩, rfl⟩, rfl⟩, rfl⟩ := h; rfl
  | .empty, b, h => by cases b <;> simp [AV.beq] at h; rfl
  | .nilMap, b, h => by cases b <;> simp [AV.beq] at h; rfl
  | .map _, b, h => by cases b <;> simp [AV.beq] at h; subst h; rfl
  | .nilFn, b, h => by cases b <;> simp [AV.beq] at h; rfl
  | .fn _ x y, b, h => by
    cases b <;> simp [AV.beq] at h
    obtain ⟨⟨rfl, h1⟩, h2⟩ := h
    rw [beqs_sound h1, beqs_sound h2]
  | .yield _, b, h => by cases b <;> simp [AV.beq] at h; subst h; rfl
  | .agg x, b, h => by cases b <;> simp [AV.beq] at h; rw [beqs_sound h]
  | .tuple x, b, h => by cases b <;> simp [AV.beq] at h; rw [beqs_sound h]
  | .atom _, b, h => by cases b <;> simp [AV.beq] at h; subst h; rfl
  | .any, b, h => by cases b <;> simp [AV.beq] at h; rfl
  | .anySlice, b, h => by cases b <;> simp [AV.beq] at h; rfl
  | .unkI _, b, h => by cases b <;> simp [AV.beq] at h; subst h; rfl
  | .unkB, b, h => by cases b <;> simp [AV.beq] at h; rfl
  | .half _, b, h => by cases b <;> simp [AV.beq] at h; subst h; rfl
theorem beqs_sound : ∀ {a b : List AV}, AV.beqs a b = true → a = b
  | [], b, h => by cases b <;> simp [AV.beqs] at h; rfl
  | a :: r, b, h => by
    cases b with
    | nil => simp [AV.beqs] at h
    | cons c s =>
      simp [AV.beqs] at h
      rw [beq_sound h.1, beqs_sound h.2]
end
mutual
theorem beq_self : ∀ (a : AV), AV.beq a a = true
  | .bool a => by simp [AV.beq]
  | .int _ _ => by simp [AV.beq]
  | .str _ => by simp [AV.beq]
  | .nilPtr => by simp [AV.beq]
  | .ptr _ _ => by simp [AV.beq]
  | .nilSlice => by simp [AV.beq]
  | .slice _ _ _ _ _ => by simp [AV.beq]
  | .empty => by simp [AV.beq]
  | .nilMap => by simp [AV.beq]
  | .map _ => by simp [AV.beq]
  | .nilFn => by simp [AV.beq]
  | .fn _ x y => by simp [AV.beq, beqs_self x, beqs_self y]
  | .yield _ => by simp [AV.beq]
  | .agg x => by simp [AV.beq, beqs_self x]
  | .tuple x => by simp [AV.beq, beqs_self x]
  | .atom _ => by simp [AV.beq]
  | .any => by simp [AV.beq]
  | .anySlice => by simp [AV.beq]
  | .unkI _ => by simp [AV.beq]
  | .unkB => by simp [AV.beq]
  | .half _ => by simp [AV.beq]
theorem beqs_self : ∀ (a : List AV), AV.beqs a a = true
  | [] => by simp [AV.beqs]
  | a :: r => by simp [AV.beqs, beq_self a, beqs_self r]
end
theorem newB_sound {a b : NewB} (h : a.beq b = true) : a = b := by
  unfold NewB.beq at h
  split at h
  · rw [beqs_sound h]
  · rw [Bool.and_eq_true] at h; rw [beq_iff'.1 h.1, beqs_sound h.2]
  · rfl
  · rw [Bool.and_eq_true] at h; rw [beq_iff'.1 h.1, beq_iff'.1 h.2]
  · rw [Bool.and_eq_true, Bool.and_eq_true] at h; rw [beq_iff'.1 h.1.1, beq_iff'.1 h.1.2, beq_iff'.1 h.2]
  · cases h
theorem sh_sound {a b : Sh} (h : a.beq b = true) : a = b := by
  unfold Sh.beq at h
  split at h
  · rfl
  · rw [Bool.and_eq_true, Bool.and_eq_true] at h
    have := h.2
    simp at this
    rw [beq_iff'.1 h.1.1, beq_iff'.1 h.1.2, this]
  · rfl
  · cases h
theorem res_sound {a b : Res} (h : a.beq b = true) : a = b := by
  unfold Res.beq at h
  split at h
  · rw [beq_sound h]
  · rw [Bool.and_eq_true] at h; rw [newB_sound h.1, sh_sound h.2]
  · cases h
/-- of a new block of a loop no record is made. -/
def Res.plain : Res → Bool
  | .new (.loop _ _ _ _) _ => false
  | _ => true
theorem res_self {a : Res} (h : a.plain = true) : a.beq a = true := by
  cases a with
  | val a => exact beq_self a
  | new n s =>
    have h2 : s.beq s = true := by cases s <;> simp [Sh.beq]
    have h1 : n.beq n = true := by
      cases n with
      | cells g cs => cases g <;> simp [NewB.beq, beqs_self]
      | map => rfl
      | iter m a b => cases m <;> simp [NewB.beq]
      | loop => simp [Res.plain] at h
    simp [Res.beq, h1, h2]

/-- what is told does not hang on who asks. -/
def Tells1 (f : (Res → Bool) → Bool) : Prop := ∀ K, f K = true → ∃ q, K q = true ∧ q.plain = true ∧ ∀ K', K' q = true → f K' = true
theorem t1_k {q : Res} (hq : q.plain = true) : Tells1 fun K => K q := fun K h => ⟨q, h, hq, fun _ h => h⟩
theorem t1_false : Tells1 fun _ => false := fun K h => by cases h
theorem t1_cond {c : Bool} {f g : (Res → Bool) → Bool} (hf : Tells1 f) (hg : Tells1 g) : Tells1 fun K => cond c (f K) (g K) := by
  cases c
  · exact hg
  · exact hf
theorem t1_force {a : AV} : Tells1 fun K => a.force fun a => K (.val a) := fun K h => by
  simp only [force_eq] at h
  exact ⟨_, h, rfl, fun K' h' => by simp only [force_eq]; exact h'⟩
theorem t1_nat {n : Nat} {f : Nat → AV} : Tells1 fun K => fNat n fun n => K (.val (f n)) := fun K h => by
  simp only [fNat_eq] at h
  exact ⟨_, h, rfl, fun K' h' => by simp only [fNat_eq]; exact h'⟩
theorem t1_lscal {o : Sem Value} : Tells1 fun K => lscal P o fun a => K (.val a) := fun K h => by
  unfold lscal at h
  split at h
  · cases h
  · rename_i v hv
    split at h
    · cases h
    · rename_i a ha
      simp only [force_eq] at h
      refine ⟨_, h, rfl, fun K' h' => ?_⟩
      simp only [lscal, hv, ha, force_eq]
      exact h'
theorem wset_ex : ∀ (l : List AV) (o : Nat) (vs : List AV) (K : List AV → Bool), wset l o vs K = true → ∃ l', K l' = true ∧ ∀ K', K' l' = true → wset l o vs K' = true
  | l, o, [], K, h => by
    have e : ∀ K : List AV → Bool, wset l o [] K = K l := fun K => by cases l <;> cases o <;> rfl
    rw [e] at h
    exact ⟨l, h, fun K' h' => by rw [e]; exact h'⟩
  | [], o, v :: vs, K, h => by cases o <;> cases h
  | a :: r, 0, v :: vs, K, h => by
    obtain ⟨l', h1, h2⟩ := wset_ex r 0 vs _ h
    exact ⟨_, h1, fun K' h' => h2 _ h'⟩
  | a :: r, o + 1, v :: vs, K, h => by
    obtain ⟨l', h1, h2⟩ := wset_ex r o (v :: vs) _ h
    exact ⟨_, h1, fun K' h' => h2 _ h'⟩
theorem fillG_ex {place : Nat → Option (Nat × Nat)} : ∀ (l : List (Nat × AV)) (cs : List AV) (K : List AV → Bool), fillG place l cs K = true → ∃ l', K l' = true ∧ ∀ K', K' l' = true → fillG place l cs K' = true
  | [], cs, K, h => ⟨cs, h, fun K' h' => h'⟩
  | (i, v) :: r, cs, K, h => by
    unfold fillG at h
    split at h
    · cases h
    · rename_i off n hp
      obtain ⟨hc, h⟩ := cond_true' h
      obtain ⟨l1, h1, h2⟩ := wset_ex _ _ _ _ h
      obtain ⟨l2, h3, h4⟩ := fillG_ex r l1 K h1
      refine ⟨l2, h3, fun K' h' => ?_⟩
      unfold fillG
      simp only [hp, hc, cond_true]
      exact h2 _ (h4 _ h')
theorem t1_fill {place : Nat → Option (Nat × Nat)} {l : List (Nat × AV)} {cs : List AV} {f : List AV → Res} (hf : ∀ cs, (f cs).plain = true) : Tells1 fun K => fillG place l cs fun cs => K (f cs) := fun K h => by
  obtain ⟨l', h1, h2⟩ := fillG_ex _ _ _ h
  exact ⟨_, h1, hf _, fun K' h' => h2 _ h'⟩

theorem t1_two {b : Bool} : Tells1 fun K => two b fun a => K (.val a) := by
  cases b
  · show Tells1 fun K => K (Res.val (.bool false)); exact t1_k rfl
  · show Tells1 fun K => K (Res.val (.bool true)); exact t1_k rfl
theorem t1_fNat {k : IntKind} {r : Nat} : Tells1 fun K => fNat r fun r => K (.val (.int k (.ofNat r))) := by
  cases r
  · show Tells1 fun K => K (Res.val _); exact t1_k rfl
  · show Tells1 fun K => K (Res.val _); exact t1_k rfl
theorem t1_fast {op : BinOp} {k k' : IntKind} {m n : Nat} {s : Sem Value} : Tells1 fun K => fastBin op k k' m n (lscal P s fun a => K (.val a)) fun a => K (.val a) := by
  unfold fastBin
  split
  · exact t1_lscal
  · split
    all_goals first
      | exact t1_two
      | exact t1_lscal
      | (split
         · exact t1_fNat
         · exact t1_lscal)
theorem t1_bin {op : BinOp} {t : TypeId} {x y : Operand} {a b : AV} : Tells1 (aBin P op t x y a b) := by
  unfold aBin
  split
  · split
    · split <;> exact t1_k rfl
    · split <;> exact t1_k rfl
    · exact t1_false
  · refine t1_cond ?_ t1_false
    split <;> first | exact t1_k rfl | exact t1_false
  · refine t1_cond ?_ t1_false
    split <;> first | exact t1_k rfl | exact t1_false | (split <;> exact t1_k rfl)
  · exact t1_fast
  · split
    · exact t1_lscal
    · split
      · exact t1_false
      · refine t1_cond ?_ t1_false
        split
        · exact t1_k rfl
        · exact t1_k rfl
        · exact t1_false
theorem t1_conv {s d : TypeId} {a : AV} : Tells1 (aConv P H s d a) := by
  unfold aConv
  repeat' split
  all_goals first
    | exact t1_false
    | exact t1_lscal
    | exact t1_k rfl
theorem t1_slice {t : TypeId} {x : AV} {lo hi mx : Option AV} : Tells1 (aSlice P H t x lo hi mx) := by
  unfold aSlice
  repeat' split
  all_goals first
    | exact t1_false
    | exact t1_k rfl
    | exact t1_cond t1_force t1_false
    | exact t1_cond (t1_k rfl) t1_false
    | exact t1_cond (t1_cond t1_force (t1_cond t1_force (t1_cond (t1_k rfl) t1_false))) t1_false
theorem t1_len {t : TypeId} {a : AV} : Tells1 (aLen P H t a) := by
  unfold aLen
  repeat' split
  all_goals first
    | exact t1_false
    | exact t1_k rfl
    | exact t1_nat
theorem t1_evR {tmps : List AV} {o : Oper} : Tells1 (evR P H tmps o) := by
  have e : evR P H tmps o = evR0 P H tmps o := funext fun K => evR_eq P H tmps o K
  rw [e]
  unfold evR0
  split
  all_goals (try simp only)
  all_goals (repeat' split)
  all_goals first
    | exact t1_false
    | exact t1_k rfl
    | exact t1_bin
    | exact t1_conv
    | exact t1_slice
    | exact t1_len
    | exact t1_lscal
    | exact t1_force
    | exact t1_fill fun _ => rfl
    | exact t1_cond (t1_fill fun _ => rfl) t1_false
    | exact t1_cond (t1_k rfl) t1_false
    | exact t1_cond t1_force t1_false
    | exact t1_cond t1_false t1_false
end Go.Proofs.Ytandjcalokecjaa.Ev
