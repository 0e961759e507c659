import Derived.Test.YtkdmlpmjfnjnmaaSve
/-! operations that leave memory as it is: slices of slices, maps' entries. -/
namespace Go.Proofs.Ytkdmlpmjfnjnmaa.Sv
open Go Go.RowKit

variable {P : Program} {ρ : Ctx} {E : Env} {H : AH} {w : World}

inductive OVR (ρ : Ctx) (E : Env) : Option AV → Option Value → Prop
  | none : OVR ρ E .none .none
  | some (a : AV) (v : Value) (h : VR ρ E a v) : OVR ρ E (.some a) (.some v)
theorem nat_sound {a : AV} {n : Nat} {v : Value} (h : nat? a = some n) (hv : VR ρ E a v) : ∃ k, v = .int k (n : Int) ∧ a = .int k (n : Int) := by
  unfold nat? at h
  split at h
  · simp at h; subst h
    cases hv
    exact ⟨_, rfl, rfl⟩
  · cases h
theorem nats_sound {d : Nat} {a : Option AV} {n : Nat} {v : Option Value} (h : nats? d a = some n) (hv : OVR ρ E a v) : (a = none ∧ v = none ∧ n = d) ∨ ∃ k, v = some (.int k (n : Int)) ∧ a.isSome = true := by
  cases hv with
  | none => simp [nats?] at h; exact .inl ⟨rfl, rfl, h.symm⟩
  | some a v h' =>
    obtain ⟨k, rfl, _⟩ := nat_sound h h'
    exact .inr ⟨k, rfl, rfl⟩
theorem run_bound (k : IntKind) (n y : Nat) (c : BoundsCode) (h : n ≤ y) (w : World) : (Instr.sliceBound (.int k (n : Int)) y c).run P w = .ok n w := by
  have : (0 : Int) ≤ (n : Int) ∧ (n : Int) ≤ (y : Int) := ⟨by omega, by omega⟩
  simp [Instr.sliceBound, asIntOf, h]
theorem run_bounds (isS : Bool) (len cap l h m : Nat) {lo hi mx : Option Value} (hm : (mx = none ∧ m = cap) ∨ ∃ k, mx = some (.int k (m : Int)) ∧ m ≤ cap)
    (hh : (hi = none ∧ h = len ∧ mx = none) ∨ ∃ k, hi = some (.int k (h : Int)) ∧ h ≤ m) (hl : (lo = none ∧ l = 0) ∨ ∃ k, lo = some (.int k (l : Int)) ∧ l ≤ h) (w : World) :
    (Instr.sliceBounds isS len cap lo hi mx).run P w = .ok (l, h, m) w := by
  unfold Instr.sliceBounds
  rcases hm with ⟨rfl, rfl⟩ | ⟨k, rfl, hm⟩ <;> rcases hh with ⟨rfl, rfl, hx⟩ | ⟨k', rfl, hh⟩ <;> rcases hl with ⟨rfl, rfl⟩ | ⟨k'', rfl, hl⟩ <;>
    first | (cases hx; done) | (simp [run_bound, *])

theorem ble' {a b : Nat} (h : Nat.ble a b = true) : a ≤ b := Nat.le_of_ble_eq_true h
theorem blt' {a b : Nat} (h : Nat.blt a b = true) : a < b := Nat.lt_of_succ_le (Nat.le_of_ble_eq_true h)

theorem bnd_sound {d i : Int} {a : Option AV} {v : Option Value} (h : bndOf d a = some i) (hv : OVR ρ E a v) : (a = none ∧ v = none ∧ i = d) ∨ ∃ k, v = some (.int k i) := by
  cases hv with
  | none => simp [bndOf] at h; exact .inl ⟨rfl, rfl, h.symm⟩
  | some a v hv =>
    unfold bndOf at h
    split at h
    · rename_i e; cases e
    · rename_i e; cases e; cases hv; simp at h; subst h; exact .inr ⟨_, rfl⟩
    · rename_i e; cases e; cases hv; simp at h; subst h; exact .inr ⟨_, rfl⟩
    · cases h
theorem slice_data {t e : TypeId} {z n : Nat} {f : Nat → List AV} {v : Value} {lo hi mx : Option AV} {lo' hi' mx' : Option Value} {K : Res → Bool}
    (h : (match mx, bndOf (Int.ofNat n) hi, bndOf 0 lo, size P e with
      | none, some h, some l, some z' => cond (Nat.beq z z') (fork (decide (0 ≤ l ∧ l ≤ h ∧ h ≤ Int.ofNat n)) (K (.val (.data z (h.toNat - l.toNat) (fun i => f (l.toNat + i))))) false) false
      | _, _, _, _ => false) = true) (hv : VR ρ E (.data z n f) v)
    (hlo : OVR ρ E lo lo') (hhi : OVR ρ E hi hi') (hmx : OVR ρ E mx mx') (h1 : P.underlying t = some (.slice e)) :
    ∃ q, K q = true ∧ Tells P ρ E (do pure (Next.value (← Instr.sliceAt t v lo' hi' mx'))) w q := by
  split at h
  · rename_i hh l z' h2 h3 h4
    cases hmx
    obtain ⟨hz, h'⟩ := cond_true' h
    clear h
    obtain rfl := beq_iff'.1 hz
    obtain ⟨hc, h⟩ := fork_true' h'
    clear h'
    simp only [decide_eq_true_eq] at hc
    obtain ⟨c1, c2, c3⟩ := hc
    obtain ⟨l, rfl⟩ : ∃ m : Nat, l = (m : Int) := ⟨l.toNat, by omega⟩
    obtain ⟨hh, rfl⟩ : ∃ m : Nat, hh = (m : Int) := ⟨hh.toNat, by omega⟩
    simp only [Int.toNat_natCast] at h
    have c2' : l ≤ hh := by omega
    have c3' : hh ≤ n := by simp at c3; omega
    have hcv : ∃ a cap, v = .slice a n cap ∧ n ≤ cap ∧ (a = none → n = 0 ∧ cap = 0) := by
      cases hv with
      | data z n f b off cap c elem fr hd hcap hsz hlen hrow => exact ⟨_, _, rfl, hcap, fun h => by cases h⟩
      | data0 z f a c => exact ⟨_, _, rfl, Nat.zero_le _, fun h => by cases h⟩
      | dataN z f => exact ⟨_, _, rfl, Nat.le_refl _, fun _ => ⟨rfl, rfl⟩⟩
    obtain ⟨a, cap, rfl, hcap, hnone⟩ := hcv
    have hrun : (Instr.sliceBounds true n cap lo' hi' none).run P w = .ok (l, hh, cap) w := by
      refine run_bounds _ _ _ _ _ _ (.inl ⟨rfl, rfl⟩) ?_ ?_ w
      · rcases bnd_sound h2 hhi with ⟨_, e1, e2⟩ | ⟨k, e1⟩
        · exact .inl ⟨e1, by simp at e2; omega, rfl⟩
        · exact .inr ⟨k, e1, by omega⟩
      · rcases bnd_sound h3 hlo with ⟨_, e1, e2⟩ | ⟨k, e1⟩
        · exact .inl ⟨e1, by omega⟩
        · exact .inr ⟨k, e1, c2'⟩
    refine ⟨_, h, tell (v := .slice (if cap = l then a else a.map (·.add (l * z))) (hh - l) (cap - l)) ?_ ?_⟩
    · simp [Instr.sliceAt, Instr.slice, run_und h1, hrun, run_size h4]
    · by_cases hl0 : hh - l = 0
      · rw [hl0]
        cases a with
        | none =>
          obtain ⟨rfl, rfl⟩ := hnone rfl
          have : l = 0 := by omega
          subst this
          exact .dataN _ _
        | some a => split <;> exact .data0 _ _ _ _
      · have hn : 0 < n := by omega
        rw [if_neg (by omega)]
        cases hv with
        | data z n f b off cap c elem fr hd hcap hsz hlen hrow =>
          rw [Option.map_some, add_none]
          have hm : l * z + (hh - l) * z = hh * z := by rw [← Nat.add_mul]; congr 1; omega
          have hm2 : hh * z ≤ n * z := Nat.mul_le_mul_right z c3'
          refine .data _ _ _ _ _ _ c elem fr hd (by omega) (by omega) (fun i hi => hlen _ (by omega)) fun i hi => ?_
          have := hrow (l + i) (by omega)
          have e : off + l * z + i * z = off + (l + i) * z := by rw [Nat.add_mul]; omega
          rwa [e]
        | data0 z f a c => omega
        | dataN z f => omega
  · cases h
theorem slice_top {t e : TypeId} {z n cap : Nat} {a : Option Addr} {km : IntKind} {mm N hh l : Int} {lo hi : Option AV} {lo' hi' mx' : Option Value} {K : Res → Bool} (h1 : P.underlying t = some (.slice e)) (h4 : size P e = some z)
    (hmx : OVR ρ E (some (.sint km mm)) mx') (hhi : OVR ρ E hi hi') (hlo : OVR ρ E lo lo') (h2 : bndOf N hi = some hh) (h3 : bndOf 0 lo = some l) (hs : hi.isSome = true) (d1 : 0 ≤ l) (d2 : l ≤ hh) (d3 : hh ≤ mm) (d4 : mm ≤ Int.ofNat n) (hcap : n ≤ cap) (h : K (.val .top) = true) :
    ∃ q, K q = true ∧ Tells P ρ E (do pure (Next.value (← Instr.sliceAt t (.slice a n cap) lo' hi' mx'))) w q := by
  obtain ⟨hh, rfl⟩ : ∃ m : Nat, hh = (m : Int) := ⟨hh.toNat, by omega⟩
  obtain ⟨l, rfl⟩ : ∃ m : Nat, l = (m : Int) := ⟨l.toNat, by omega⟩
  obtain ⟨mm, rfl⟩ : ∃ m : Nat, mm = (m : Int) := ⟨mm.toNat, by omega⟩
  have d4' : mm ≤ n := by simp at d4; omega
  have hrun : (Instr.sliceBounds true n cap lo' hi' mx').run P w = .ok (l, hh, mm) w := by
    refine run_bounds _ _ _ _ _ _ ?_ ?_ ?_ w
    · cases hmx with
      | some _ _ hm => cases hm; exact .inr ⟨_, rfl, by omega⟩
    · rcases bnd_sound h2 hhi with ⟨e0, _, _⟩ | ⟨k, e1⟩
      · rw [e0] at hs; cases hs
      · exact .inr ⟨k, e1, by omega⟩
    · rcases bnd_sound h3 hlo with ⟨_, e1, e2⟩ | ⟨k, e1⟩
      · exact .inl ⟨e1, by omega⟩
      · exact .inr ⟨k, e1, by omega⟩
  refine ⟨_, h, tell (v := .slice (if mm = l then a else a.map (·.add (l * z))) (hh - l) (mm - l)) ?_ (.top _)⟩
  simp [Instr.sliceAt, Instr.slice, run_und h1, hrun, run_size h4]
theorem aSlice0_sound (hR : Rel ρ E H w) {t : TypeId} {x : AV} {v : Value} {lo hi mx : Option AV} {lo' hi' mx' : Option Value} {K : Res → Bool} (h : aSlice0 P H t x lo hi mx K = true) (hv : VR ρ E x v)
    (hlo : OVR ρ E lo lo') (hhi : OVR ρ E hi hi') (hmx : OVR ρ E mx mx') :
    ∃ q, K q = true ∧ Tells P ρ E (do pure (Next.value (← Instr.sliceAt t v lo' hi' mx'))) w q := by
  unfold aSlice0 at h
  split at h
  · rename_i n e b off h1
    cases hv with
    | ptr _ _ r hb =>
      split at h
      · cases h
      · rename_i m hm
        split at h
        · rename_i hh l z h2 h3 h4
          obtain ⟨hc, h⟩ := cond_true' h
          simp only [Bool.and_eq_true] at hc
          obtain ⟨⟨⟨c1, c2⟩, c3⟩, c4⟩ := hc
          have c1 := ble' c1; have c2 := ble' c2; have c3 := ble' c3
          rw [force_eq] at h
          have hrun : (Instr.sliceBounds false n n lo' hi' mx').run P w = .ok (l, hh, m) w := by
            refine run_bounds _ _ _ _ _ _ ?_ ?_ ?_ w
            · rcases nats_sound hm hmx with ⟨_, e1, e2⟩ | ⟨k, e1, _⟩
              · exact .inl ⟨e1, e2⟩
              · exact .inr ⟨k, e1, c1⟩
            · rcases nats_sound h2 hhi with ⟨e0, e1, e2⟩ | ⟨k, e1, _⟩
              · refine .inl ⟨e1, e2, ?_⟩
                rw [e0] at c4
                cases hmx with
                | none => rfl
                | some => simp at c4
              · exact .inr ⟨k, e1, c2⟩
            · rcases nats_sound h3 hlo with ⟨_, e1, e2⟩ | ⟨k, e1, _⟩
              · exact .inl ⟨e1, e2⟩
              · exact .inr ⟨k, e1, c3⟩
          refine ⟨_, h, tell (v := .slice (some (if m = l then ⟨r.blk, off, none⟩ else (⟨r.blk, off, none⟩ : Addr).add (l * z))) (hh - l) (m - l)) ?_ ?_⟩
          · simp [Instr.sliceAt, run_und h1, Instr.sureAddr, hrun, run_size h4]
          · rw [add_none]
            by_cases hml : m = l
            · rw [if_pos hml, beq_iff'.2 hml]; exact .sliceX _ _ _ _ _ hb
            · rw [if_neg hml, beq_false'.2 hml]; exact .sliceX _ _ _ _ _ hb
        · cases h
  · rename_i e b n h1
    split at h
    · rename_i hh l z h2 h3 h4
      cases hmx
      by_cases hc : l = 0 ∧ 0 ≤ hh ∧ hh ≤ Int.ofNat n
      rotate_left
      · rw [fork_eq, decide_eq_false hc, cond_false] at h
        split at h
        · rename_i z' nr fr0 hs
          obtain ⟨hzz, h'⟩ := cond_true' h
          clear h
          obtain rfl := beq_iff'.1 hzz
          obtain ⟨hf, h⟩ := fork_true' h'
          obtain ⟨d0, d1, d2, d3⟩ := of_decide_eq_true hf
          obtain ⟨hh, rfl⟩ : ∃ m : Nat, hh = (m : Int) := ⟨hh.toNat, by omega⟩
          obtain ⟨l, rfl⟩ : ∃ m : Nat, l = (m : Int) := ⟨l.toNat, by omega⟩
          simp only [Int.toNat_natCast] at h
          have d3' : hh ≤ nr := by simp at d3; omega
          have d2' : l ≤ hh := by omega
          cases hv with
          | gsl _ _ cap r hr k1 k2 =>
            obtain ⟨cc, elem, fr, q1, q2, q3, q4, q5, q6, q7, q8⟩ := seq_rel hR hs hr
            have hhc : hh ≤ cap := by
              have e1 : hh * z ≤ nr * z := Nat.mul_le_mul_right z d3'
              rw [q5] at k2
              exact Nat.le_of_mul_le_mul_right (by omega : hh * z ≤ cap * z) q6
            have hrun : (Instr.sliceBounds true n cap lo' hi' none).run P w = .ok (l, hh, cap) w := by
              refine run_bounds _ _ _ _ _ _ (.inl ⟨rfl, rfl⟩) ?_ ?_ w
              · rcases bnd_sound h2 hhi with ⟨_, e1, e2⟩ | ⟨k, e1⟩
                · exact .inl ⟨e1, by simp at e2; omega, rfl⟩
                · exact .inr ⟨k, e1, by omega⟩
              · rcases bnd_sound h3 hlo with ⟨_, e1, e2⟩ | ⟨k, e1⟩
                · exact .inl ⟨e1, by omega⟩
                · exact .inr ⟨k, e1, d2'⟩
            refine ⟨_, h, tell (v := .slice (if cap = l then some ⟨r.blk, 0, none⟩ else (some (⟨r.blk, 0, none⟩ : Addr)).map (·.add (l * z))) (hh - l) (cap - l)) ?_ ?_⟩
            · simp [Instr.sliceAt, Instr.slice, run_und h1, hrun, run_size h4]
            · have hsz : (l + (cap - l)) * r.esz = r.size := by rw [← k2]; congr 1; omega
              by_cases hcl : cap = l
              · rw [if_pos hcl]
                exact .part b l _ _ _ r hr (by omega) hsz (.inl (by omega))
              · rw [if_neg hcl]
                refine .part b l _ _ _ r hr (by omega) hsz (.inr ?_)
                show (Addr.add ⟨r.blk, 0, none⟩ (l * z) : Addr) = _
                rw [add_none, Nat.zero_add, q5]
          | gsl0 _ a => omega
        · cases h
      rw [fork_eq, decide_eq_true hc, cond_true] at h
      have h' : fork (decide (0 < n)) (K (.val (.part b 0 hh.toNat))) (K (.val (.gsl b hh.toNat))) = true ∨ K (.val (.gsl b hh.toNat)) = true := by
        cases hsm : hi.isSome with
        | true => rw [hsm, cond_true] at h; exact .inl h
        | false => rw [hsm, cond_false] at h; exact .inr h
      clear h
      obtain ⟨rfl, c2, c3⟩ := hc
      obtain ⟨hh, rfl⟩ : ∃ m : Nat, hh = (m : Int) := ⟨hh.toNat, by omega⟩
      simp only [Int.toNat_natCast] at h'
      have c3' : hh ≤ n := by simp at c3; omega
      have hcv : ∃ a cap, v = .slice a n cap ∧ n ≤ cap := by
        cases hv with
        | gsl _ _ cap r hr h1 h2 => exact ⟨_, _, rfl, h1⟩
        | gsl0 _ a => exact ⟨_, _, rfl, Nat.le_refl _⟩
      obtain ⟨a, cap, rfl, hcap⟩ := hcv
      have hrun : (Instr.sliceBounds true n cap lo' hi' none).run P w = .ok (0, hh, cap) w := by
        refine run_bounds _ _ _ _ _ _ (.inl ⟨rfl, rfl⟩) ?_ ?_ w
        · rcases bnd_sound h2 hhi with ⟨_, e1, e2⟩ | ⟨k, e1⟩
          · exact .inl ⟨e1, by simp at e2; omega, rfl⟩
          · exact .inr ⟨k, e1, by omega⟩
        · rcases bnd_sound h3 hlo with ⟨_, e1, e2⟩ | ⟨k, e1⟩
          · exact .inl ⟨e1, rfl⟩
          · exact .inr ⟨k, e1, Nat.zero_le _⟩
      have h'' : (K (.val (.gsl b hh)) = true) ∨ (0 < n ∧ K (.val (.part b 0 hh)) = true) := by
        rcases h' with h' | h'
        · rcases fork_split' h' with ⟨g1, g2⟩ | ⟨_, g2⟩
          · exact .inr ⟨of_decide_eq_true g1, g2⟩
          · exact .inl g2
        · exact .inl h'
      clear h'
      rcases h'' with h' | ⟨hn0, h'⟩
      rotate_left
      · refine ⟨_, h', tell (v := .slice (if cap = 0 then a else a.map (·.add (0 * z))) (hh - 0) (cap - 0)) ?_ ?_⟩
        · simp [Instr.sliceAt, Instr.slice, run_und h1, hrun, run_size h4]
        · cases hv with
          | gsl _ _ _ r hr k1 k2 =>
            have e : (if cap = 0 then some (⟨r.blk, 0, none⟩ : Addr) else (some (⟨r.blk, 0, none⟩ : Addr)).map (·.add (0 * z))) = some ⟨r.blk, 0 * r.esz, none⟩ := by
              split <;> simp [add_none]
            rw [e]
            exact .part b 0 hh cap _ r hr (by omega) (by rw [Nat.zero_add]; exact k2) (.inr rfl)
          | gsl0 _ a => omega
      refine ⟨_, h', tell (v := .slice (if cap = 0 then a else a.map (·.add (0 * z))) (hh - 0) (cap - 0)) ?_ ?_⟩
      · simp [Instr.sliceAt, Instr.slice, run_und h1, hrun, run_size h4]
      · cases hv with
        | gsl _ _ _ r hr k1 k2 =>
          have e : (if cap = 0 then some (⟨r.blk, 0, none⟩ : Addr) else (some (⟨r.blk, 0, none⟩ : Addr)).map (·.add (0 * z))) = some ⟨r.blk, 0, none⟩ := by
            split
            · rfl
            · simp [add_none]
          rw [e]
          exact .gsl b hh cap r hr (by omega) k2
        | gsl0 _ a =>
          have : hh = 0 := by omega
          subst this
          exact .gsl0 _ _
    · rename_i km mm hh l z h2 h3 h4
      obtain ⟨hsm, h'⟩ := cond_true' h
      clear h
      obtain ⟨hf, h⟩ := fork_true' h'
      obtain ⟨d1, d2, d3, d4⟩ := of_decide_eq_true hf
      cases hv with
      | gsl _ _ cap r hr k1 k2 => exact slice_top h1 h4 hmx hhi hlo h2 h3 hsm d1 d2 d3 d4 k1 h
      | gsl0 _ a => exact slice_top h1 h4 hmx hhi hlo h2 h3 hsm d1 d2 d3 d4 (Nat.le_refl _) h
    · cases h
  · rename_i e b o n h1
    split at h
    · rename_i hh l z h2 h3 h4
      split at h
      · rename_i z' nr fr0 hs
        cases hmx
        obtain ⟨hzz, h'⟩ := cond_true' h
        clear h
        obtain rfl := beq_iff'.1 hzz
        obtain ⟨hf, h⟩ := fork_true' h'
        obtain ⟨d1, d2, d3⟩ := of_decide_eq_true hf
        obtain ⟨hh, rfl⟩ : ∃ m : Nat, hh = (m : Int) := ⟨hh.toNat, by omega⟩
        obtain ⟨l, rfl⟩ : ∃ m : Nat, l = (m : Int) := ⟨l.toNat, by omega⟩
        simp only [Int.toNat_natCast] at h
        have d3' : o + hh ≤ nr := by simp at d3; omega
        have d2' : l ≤ hh := by omega
        cases hv with
        | part _ _ _ cap a r hr hc hq ha =>
          obtain ⟨cc, elem, fr, q1, q2, q3, q4, q5, q6, q7, q8⟩ := seq_rel hR hs hr
          have hhc : hh ≤ cap := by
            have e1 : (o + hh) * z ≤ nr * z := Nat.mul_le_mul_right z d3'
            rw [q5] at hq
            have := Nat.le_of_mul_le_mul_right (by omega : (o + hh) * z ≤ (o + cap) * z) q6
            omega
          have hrun : (Instr.sliceBounds true n cap lo' hi' none).run P w = .ok (l, hh, cap) w := by
            refine run_bounds _ _ _ _ _ _ (.inl ⟨rfl, rfl⟩) ?_ ?_ w
            · rcases bnd_sound h2 hhi with ⟨_, e1, e2⟩ | ⟨k, e1⟩
              · exact .inl ⟨e1, by simp at e2; omega, rfl⟩
              · exact .inr ⟨k, e1, by omega⟩
            · rcases bnd_sound h3 hlo with ⟨_, e1, e2⟩ | ⟨k, e1⟩
              · exact .inl ⟨e1, by omega⟩
              · exact .inr ⟨k, e1, d2'⟩
          refine ⟨_, h, tell (v := .slice (if cap = l then some a else (some a).map (·.add (l * z))) (hh - l) (cap - l)) ?_ ?_⟩
          · simp [Instr.sliceAt, Instr.slice, run_und h1, hrun, run_size h4]
          · have hsz : (o + l + (cap - l)) * r.esz = r.size := by rw [← hq]; congr 1; omega
            by_cases hcl : cap = l
            · rw [if_pos hcl]
              exact .part b _ _ _ _ r hr (by omega) hsz (.inl (by omega))
            · rw [if_neg hcl]
              rcases ha with h0 | rfl
              · omega
              · refine .part b _ _ _ _ r hr (by omega) hsz (.inr ?_)
                show (Addr.add ⟨r.blk, o * r.esz, none⟩ (l * z) : Addr) = _
                rw [add_none, q5, Nat.add_mul]
      · cases h
    · rename_i km mm hh l z h2 h3 h4
      obtain ⟨hsm, h'⟩ := cond_true' h
      clear h
      obtain ⟨hf, h⟩ := fork_true' h'
      obtain ⟨d1, d2, d3, d4⟩ := of_decide_eq_true hf
      cases hv with
      | part _ _ _ cap a r hr hc hq ha => exact slice_top h1 h4 hmx hhi hlo h2 h3 hsm d1 d2 d3 d4 hc h
    · cases h
  · rename_i e z n f h1
    exact slice_data h hv hlo hhi hmx h1
  · rename_i e h1
    cases hv
    split at h
    · rename_i z h2 h3 h4 h5
      obtain ⟨c4, h⟩ := cond_true' h
      have hrun : (Instr.sliceBounds true 0 0 lo' hi' mx').run P w = .ok (0, 0, 0) w := by
        refine run_bounds _ _ _ _ _ _ ?_ ?_ ?_ w
        · rcases nats_sound h2 hmx with ⟨_, e1, e2⟩ | ⟨k, e1, _⟩
          · exact .inl ⟨e1, e2⟩
          · exact .inr ⟨k, e1, Nat.le_refl _⟩
        · rcases nats_sound h3 hhi with ⟨e0, e1, e2⟩ | ⟨k, e1, _⟩
          · refine .inl ⟨e1, e2, ?_⟩
            rw [e0] at c4
            cases hmx with
            | none => rfl
            | some => simp at c4
          · exact .inr ⟨k, e1, Nat.le_refl _⟩
        · rcases nats_sound h4 hlo with ⟨_, e1, e2⟩ | ⟨k, e1, _⟩
          · exact .inl ⟨e1, e2⟩
          · exact .inr ⟨k, e1, Nat.le_refl _⟩
      exact ⟨_, h, tell (v := .slice none 0 0) (by simp [Instr.sliceAt, Instr.slice, run_und h1, hrun, run_size h5]) .nilSlice⟩
    · cases h
  · rename_i e b off len cap ex h1
    split at h
    · rename_i m hh l z g cs h2 h3 h4 h5 h6
      obtain ⟨hc, hq⟩ := cond_true' h
      clear h
      simp only [Bool.and_eq_true] at hc
      obtain ⟨⟨⟨c1, c2⟩, c3⟩, c4⟩ := hc
      have c1 := ble' c1; have c2 := ble' c2; have c3 := ble' c3
      have hi4 : hi = none → mx' = none := fun e0 => by
        rw [e0] at c4
        cases hmx with
        | none => rfl
        | some => simp at c4
      have hnone : hi' = none ∧ hh = len → mx' = none := fun ⟨e1, _⟩ => hi4 (by cases hhi with | none => rfl | some => cases e1)
      have hH : (hi' = none ∧ hh = len ∧ mx' = none) ∨ ∃ k, hi' = some (.int k (hh : Int)) := by
        rcases nats_sound h3 hhi with ⟨e0, e1, e2⟩ | ⟨k, e1, _⟩
        · exact .inl ⟨e1, e2, hi4 e0⟩
        · exact .inr ⟨k, e1⟩
      have hL : (lo' = none ∧ l = 0) ∨ ∃ k, lo' = some (.int k (l : Int)) ∧ l ≤ hh := by
        rcases nats_sound h4 hlo with ⟨_, e1, e2⟩ | ⟨k, e1, _⟩
        · exact .inl ⟨e1, e2⟩
        · exact .inr ⟨k, e1, c3⟩
      split at hq
      · rename_i hex
        rw [force_eq] at hq
        cases hv with
        | sliceX _ _ _ _ r hb =>
          have hrun : (Instr.sliceBounds true len cap lo' hi' mx').run P w = .ok (l, hh, m) w := by
            refine run_bounds _ _ _ _ _ _ ?_ ?_ hL w
            · rcases nats_sound h2 hmx with ⟨_, e1, e2⟩ | ⟨k, e1, _⟩
              · exact .inl ⟨e1, e2⟩
              · exact .inr ⟨k, e1, c1⟩
            · rcases hH with hx | ⟨k, e1⟩
              · exact .inl hx
              · exact .inr ⟨k, e1, c2⟩
          refine ⟨_, hq, tell (v := .slice (if m = l then some ⟨r.blk, off, none⟩ else some ((⟨r.blk, off, none⟩ : Addr).add (l * z))) (hh - l) (m - l)) ?_ ?_⟩
          · simp [Instr.sliceAt, Instr.slice, run_und h1, hrun, run_size h5]
          · rw [add_none]
            by_cases hml : m = l
            · rw [if_pos hml, beq_iff'.2 hml]; exact .sliceX _ _ _ _ _ hb
            · rw [if_neg hml, beq_false'.2 hml]; exact .sliceX _ _ _ _ _ hb
        | sliceG _ _ _ _ cap' r hb hcc hs =>
          simp at hex
          rcases nats_sound h2 hmx with ⟨e0, e1, e2⟩ | ⟨k, e1, _⟩
          · rw [e0] at hex; cases hex
          · have hrun : (Instr.sliceBounds true len cap' lo' hi' mx').run P w = .ok (l, hh, m) w := by
              refine run_bounds _ _ _ _ _ _ (.inr ⟨k, e1, by omega⟩) ?_ hL w
              rcases hH with hx | ⟨k, e1⟩
              · exact .inl hx
              · exact .inr ⟨k, e1, c2⟩
            refine ⟨_, hq, tell (v := .slice (if m = l then some ⟨r.blk, off, none⟩ else some ((⟨r.blk, off, none⟩ : Addr).add (l * z))) (hh - l) (m - l)) ?_ ?_⟩
            · simp [Instr.sliceAt, Instr.slice, run_und h1, hrun, run_size h5]
            · rw [add_none]
              by_cases hml : m = l
              · rw [if_pos hml, beq_iff'.2 hml]; exact .sliceX _ _ _ _ _ hb
              · rw [if_neg hml, beq_false'.2 hml]; exact .sliceX _ _ _ _ _ hb
      · rename_i hex
        simp only [Bool.or_eq_false_iff] at hex
        obtain ⟨hex1, hex2⟩ := hex
        subst hex1
        cases hv with
        | sliceG _ _ _ _ cap' r hb hcc hs =>
          have hmn : mx = none := by cases mx <;> simp at hex2; rfl
          subst hmn
          have hmx0 : mx' = none := by cases hmx; rfl
          subst hmx0
          have hm0 : m = cap := by simp [nats?] at h2; exact h2.symm
          subst hm0
          have hrun : (Instr.sliceBounds true len cap' lo' hi' none).run P w = .ok (l, hh, cap') w := by
            refine run_bounds _ _ _ _ _ _ (.inl ⟨rfl, rfl⟩) ?_ hL w
            rcases hH with hx | ⟨k, e1⟩
            · exact .inl hx
            · exact .inr ⟨k, e1, by omega⟩
          have hr2 : (Instr.sliceAt t (.slice (some ⟨r.blk, off, none⟩) len cap') lo' hi' none).run P w = .ok (.slice (if cap' = l then some ⟨r.blk, off, none⟩ else some ((⟨r.blk, off, none⟩ : Addr).add (l * z))) (hh - l) (cap' - l)) w := by
            simp [Instr.sliceAt, Instr.slice, run_und h1, hrun, run_size h5]
          rcases cond_split (p := fun z => z = true) hq with ⟨d1, hq⟩ | ⟨d1, hq⟩
          · have d1 := beq_iff'.1 d1
            subst d1
            rw [force_eq] at hq
            refine ⟨_, hq, tell hr2 ?_⟩
            rw [Nat.zero_mul, add_none, Nat.add_zero, Nat.sub_zero, Nat.sub_zero, ite_self]
            exact .sliceG _ _ _ _ _ _ hb hcc hs
          · rcases cond_split (p := fun z => z = true) hq with ⟨d2, hq⟩ | ⟨d2, hq⟩
            · rw [force_eq] at hq
              rw [Bool.and_eq_true] at d2
              obtain ⟨d2, d3⟩ := d2
              have d2 := blt' d2
              have hz : r.esz = z := by
                obtain ⟨c, elem, fr, _, _, _, _, _, hg⟩ := cellsAt_rel hR h6 hb
                cases g with
                | none => simp at d3
                | some q => simp at d3; rw [← d3]; exact hg q rfl
              refine ⟨_, hq, tell hr2 ?_⟩
              rw [if_neg (by omega), add_none]
              refine .sliceG _ _ _ _ _ _ hb (by omega) ?_
              rw [hz] at hs ⊢
              have : l * z + (cap' - l) * z = cap' * z := by rw [← Nat.add_mul]; congr 1; omega
              omega
            · obtain ⟨d3, hq⟩ := cond_true' hq
              have d3 := beq_iff'.1 d3
              refine ⟨_, hq, tell hr2 ?_⟩
              have : hh - l = 0 := by omega
              rw [this]
              split
              · exact .empty _ _
              · exact .empty _ _
    · cases h
  · cases h
theorem forkIx_spec {i : Int} {K : Nat → Bool} : ∀ {n : Nat}, forkIx i K n = true → ∃ k, k < n ∧ i = (k : Int) ∧ K k = true
  | 0, h => by cases h
  | n + 1, h => by
    unfold forkIx at h
    rcases fork_split' h with ⟨hc, h⟩ | ⟨_, h⟩
    · exact ⟨n, Nat.lt_succ_self n, of_decide_eq_true hc, h⟩
    · obtain ⟨k, h1, h2, h3⟩ := forkIx_spec h
      exact ⟨k, by omega, h2, h3⟩
theorem aSlice_sound (hR : Rel ρ E H w) {t : TypeId} {x : AV} {v : Value} {lo hi mx : Option AV} {lo' hi' mx' : Option Value} {K : Res → Bool} (h : aSlice P H t x lo hi mx K = true) (hv : VR ρ E x v)
    (hlo : OVR ρ E lo lo') (hhi : OVR ρ E hi hi') (hmx : OVR ρ E mx mx') :
    ∃ q, K q = true ∧ Tells P ρ E (do pure (Next.value (← Instr.sliceAt t v lo' hi' mx'))) w q := by
  unfold aSlice at h
  split at h
  · obtain ⟨j, h1, h2, h3⟩ := forkIx_spec h
    cases hhi with
    | some _ _ hy =>
      cases hy
      subst h2
      exact aSlice0_sound hR h3 hv hlo (.some _ _ (.int _ _)) hmx
  · obtain ⟨j, h1, h2, h3⟩ := forkIx_spec h
    cases hhi with
    | some _ _ hy =>
      cases hy
      subst h2
      exact aSlice0_sound hR h3 hv hlo (.some _ _ (.int _ _)) hmx
  · exact aSlice0_sound hR h hv hlo hhi hmx
end Go.Proofs.Ytkdmlpmjfnjnmaa.Sv
