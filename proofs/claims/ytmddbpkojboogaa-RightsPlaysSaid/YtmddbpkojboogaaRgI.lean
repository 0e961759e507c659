import Derived.Test.YtmddbpkojboogaaRgH
namespace Go.Proofs.Ytmddbpkojboogaa
open Go.RowKit
/-! rights: what every call of a kind asks first. -/
def allocR : Sem Value := Instr.alloc 42 true (.tuple #[])
def buildR : Sem Value := Instr.build 42 #[]
theorem exec_allocR (ρ : Operand → Value) (dst : Option Tmp) (ty : TypeId) (pos : String) (after : Array Edge) (guard : Option (Nat × Bool)) :
    execOp ρ ⟨dst, .alloc 42, ty, pos, after, guard⟩ = (do pure (.value (← allocR))) := rfl
theorem exec_buildR (ρ : Operand → Value) (dst : Option Tmp) (ty : TypeId) (pos : String) (after : Array Edge) (guard : Option (Nat × Bool)) :
    execOp ρ ⟨dst, .build 42 #[], ty, pos, after, guard⟩ = (do pure (.value (← buildR))) := by unfold execOp buildR; simp
theorem run_allocR (W : World) : allocR.run Try.prog W = .ok (.pointer (some ⟨W.heap.size, 0, none⟩)) (W.alloc (.cells (rgtA Z54) 42)) := by
  unfold allocR
  go_simp
  rfl
theorem run_buildR (W : World) : buildR.run Try.prog W = .ok (.agg (rgtA Z54)) W := by
  unfold buildR
  go_simp
  rfl
attribute [local go_sem ↓] exec_loadR exec_storeR exec_allocR exec_buildR
def guardR (L : List Int) (x : Int) (ks : List Int) (E : List Int × Int) : List Int × Int :=
  if mayR L = true ∧ 1 ≤ x ∧ x ≤ 1125899906842624 then (if ks.all regR = true then (if E.2 = 0 then E else (Z54, E.2)) else (Z54, 10)) else (Z54, 1)
/-- the blocks of a call. -/
structure TU (w W : World) (L : List Int) (x : Int) : Prop where
  r : RB W w.heap.size L
  x : W.cell? ⟨w.heap.size + 1, 0, none⟩ = some (.int .i64 x)
  z : RB W (w.heap.size + 2) Z54
  bel : Below w.heap.size w W
  size : w.heap.size + 3 ≤ W.heap.size
section
variable {w W W' : World} {L : List Int} {x : Int}
theorem TU.next (h : TU w W L x) (hb : Below W.heap.size W W') : TU w W' L x :=
  ⟨h.r.after hb, (hb.cell (p := ⟨w.heap.size + 1, 0, none⟩) (by have := h.size; show w.heap.size + 1 < _; omega)).trans h.x, h.z.after hb, h.bel.trans (hb.mono h.bel.size), Nat.le_trans h.size hb.size⟩
theorem TU.first (hL : L.length = 54) : TU w (((w.alloc (.cells (rgtA L) 42)).alloc (.cells #[.int .i64 x] 2)).alloc (.cells (rgtA Z54) 42)) L x := by
  refine ⟨((RB.new w hL).alloc _).alloc _, ?_, ?_, ?_, by simp⟩
  · have h : Blk ((w.alloc (.cells (rgtA L) 42)).alloc (.cells #[.int .i64 x] 2)) (w.heap.size + 1) 2 #[.int .i64 x] := by
      have := Blk.new (w.alloc (.cells (rgtA L) 42)) 2 #[.int .i64 x]
      rwa [show (w.alloc (.cells (rgtA L) 42)).heap.size = w.heap.size + 1 by simp] at this
    exact (h.alloc _).cell 0
  · have := RB.new ((w.alloc (.cells (rgtA L) 42)).alloc (.cells #[.int .i64 x] 2)) (L := Z54) rfl
    rwa [show ((w.alloc (.cells (rgtA L) 42)).alloc (.cells #[.int .i64 x] 2)).heap.size = w.heap.size + 2 by simp] at this
  · exact (((Below.refl _ _).alloc (Nat.le_refl _) _).alloc (by simp) _).alloc (by simp; omega) _
theorem TU.ret (h : TU w W L x) (M : List Int) (hM : M.length = 54) : RB (W.setRow (w.heap.size + 2) (rgtA M)) (w.heap.size + 2) M ∧ Below w.heap.size w (W.setRow (w.heap.size + 2) (rgtA M)) :=
  ⟨⟨h.z.blk.row (rgtA M), hM⟩, below_setRow h.bel (by omega) _⟩
theorem retR {W : World} {g : Nat} {M : List Int} (h : RB W g M) {fn : Func} {p u : Tmp} (hf : fn.results = #[.cell p 42, .tmp u]) (tmps : Array Value) (hp : tmps.getD p undef = .pointer (some ⟨g, 0, none⟩)) :
    (results fn tmps).run Try.prog W = .ok (.tuple #[.agg (rgtA M), tmps.getD u undef]) W :=
  results_row_tmp hf tmps W g 42 (rgtA M) (0, 0) _ hp h.blk Try.underlying42 rfl (infoR_of h.len)
end
def RegTo (ks : List Int) (k : Nat) : Prop := (ks.take k).all regR = true
theorem RegTo.step {xs : List Int} {k : Nat} (h : RegTo xs k) (hk : k < xs.length) (hx : regR xs[k] = true) : RegTo xs (k + 1) := by
  unfold RegTo at h ⊢
  rw [List.take_succ_eq_append_getElem hk, List.all_append, h]; simp [hx]
set_option maxRecDepth 100000
set_option maxHeartbeats 2000000
theorem turned_any (L : List Int) (h : L.length = 54) (x : Int) (ks : List Int) (A : Option Addr) (n c : Nat) (fid : Nat) (caps : Array Value) (E : List Int × Int) (w : World)
    (hks : Ints w w.heap.size A ks) (hn : n = ks.length) (hmx : n ≤ 1000) (hcf : ∀ (args : Array Value) (W : World), (callFunc fid args).run Try.prog W = .ok (.enter fid args) W)
    (HT : mayR L = true → 1 ≤ x → x ≤ 1125899906842624 → ks.all regR = true → ∀ W, TU w W L x →
      Calls Try.prog fid (#[.pointer (some ⟨w.heap.size, 0, none⟩), .func (.func 60) #[] #[.pointer (some ⟨w.heap.size + 1, 0, none⟩)]] ++ caps) W fun e w' => e = .returned (.int .i64 E.2) ∧ TU w w' E.1 x) :
    Calls Try.prog 54 #[.agg (rgtA L), .int .i64 x, .slice A n c, .func (.func fid) #[] caps] w
      fun e w' => e = .returned (.tuple #[.agg (rgtA (guardR L x ks E).1), .int .i64 (guardR L x ks E).2]) ∧ Below w.heap.size w w' := by
  have t0 : TU w (((w.alloc (.cells (rgtA L) 42)).alloc (.cells #[.int .i64 x] 2)).alloc (.cells (rgtA Z54) 42)) L x := TU.first h
  have MAY := Lib.hid (mayR_any L h)
  have bR := run_buildR
  have aR := run_allocR
  have HN := Lib.hid hn
  clear hn
  obtain ⟨M, er⟩ := E
  cases hm : mayR L
  case false =>
    have EV : Hid (guardR L x ks (M, er) = (Z54, 1)) := by show _ = _; unfold guardR; rw [if_neg (by rw [hm]; simp)]
    rw [hm] at MAY
    clear hm HT
    have l1 := run_loadR t0.r
    go_enter Try.func54, Try.ntmps54
    go_wp2_with (go_at_call 23; refine (MAY.out _).mono ?_; rintro e w2 ⟨rfl, hb⟩; have t2 := t0.next hb; have s2 := run_storeR (L := Z54) rfl t2.z.blk rfl; clear hb)
    exact bodyPost_ret (retR (t2.ret Z54 rfl).1 Try.results54 _ rfl) rfl ⟨by rw [EV.out]; rfl, (t2.ret Z54 rfl).2⟩
  case true =>
    have l1 := run_loadR t0.r
    by_cases hx1 : x < 1
    · have EV : Hid (guardR L x ks (M, er) = (Z54, 1)) := by show _ = _; unfold guardR; rw [if_neg (by omega)]
      rw [hm] at MAY
      clear hm HT
      go_enter Try.func54, Try.ntmps54
      go_wp2_with (go_at_call 23; refine (MAY.out _).mono ?_; rintro e w2 ⟨rfl, hb⟩; have t2 := t0.next hb; have s2 := run_storeR (L := Z54) rfl t2.z.blk rfl; have x2 := t2.x; clear hb)
      exact bodyPost_ret (retR (t2.ret Z54 rfl).1 Try.results54 _ rfl) rfl ⟨by rw [EV.out]; rfl, (t2.ret Z54 rfl).2⟩
    by_cases hx2 : 1125899906842624 < x
    · have EV : Hid (guardR L x ks (M, er) = (Z54, 1)) := by show _ = _; unfold guardR; rw [if_neg (by omega)]
      rw [hm] at MAY
      clear hm HT
      go_enter Try.func54, Try.ntmps54
      go_wp2_with (go_at_call 23; refine (MAY.out _).mono ?_; rintro e w2 ⟨rfl, hb⟩; have t2 := t0.next hb; have s2 := run_storeR (L := Z54) rfl t2.z.blk rfl; have x2 := t2.x; clear hb)
      exact bodyPost_ret (retR (t2.ret Z54 rfl).1 Try.results54 _ rfl) rfl ⟨by rw [EV.out]; rfl, (t2.ret Z54 rfl).2⟩
    have HT2 : Hid (ks.all regR = true → ∀ W, TU w W L x →
      Calls Try.prog fid (#[.pointer (some ⟨w.heap.size, 0, none⟩), .func (.func 60) #[] #[.pointer (some ⟨w.heap.size + 1, 0, none⟩)]] ++ caps) W fun e w' => e = .returned (.int .i64 er) ∧ TU w w' M x) := HT hm (by omega) (by omega)
    have EVB : Hid (ks.all regR = false → guardR L x ks (M, er) = (Z54, 10)) := fun hb => by unfold guardR; rw [if_pos ⟨hm, by omega, by omega⟩, if_neg (by rw [hb]; simp)]
    have EVY : Hid (ks.all regR = true → guardR L x ks (M, er) = if er = 0 then (M, er) else (Z54, er)) := fun hb => by unfold guardR; rw [if_pos ⟨hm, by omega, by omega⟩, if_pos hb]
    rw [hm] at MAY
    clear hm HT
    go_enter Try.func54, Try.ntmps54
    go_wp2_with (go_at_call 23; refine (MAY.out _).mono ?_; rintro e w2 ⟨rfl, hb⟩; have t2 := t0.next hb; have x2 := t2.x; clear hb l1 t0)
    clear x2
    go_loopw [28] (fun i wr => ∃ k : Nat, k ≤ n ∧ i = .int .i64 (k : Int) ∧ RegTo ks k ∧ TU w wr L x) (fun i _ => n - (intOf i).toNat)
    case atStart => exact ⟨0, by omega, rfl, rfl, t2⟩
    case round =>
      clear t2
      obtain ⟨k, hk, rfl, hall, t⟩ := hrel
      by_cases hlt : k < n
      · have hkx : k < ks.length := by rw [← HN.out]; exact hlt
        obtain ⟨b, off, rfl, hB, hc⟩ := Ints.at_ (Reads.below hks t.bel) hkx
        have HNO := Lib.hid (all_fst (p := regR) ks k hkx)
        have HYES := Lib.hid (hall.step hkx)
        have REG := Lib.hid (rregion_any ks[k])
        generalize ks[k] = z at hc HNO HYES REG
        cases hz : regR z
        case false =>
          have EV := Lib.hid (EVB.out (HNO.out hz))
          rw [hz] at REG
          have s2 := run_storeR (L := Z54) rfl t.z.blk rfl
          clear hz HNO HYES hall hks
          go_wp2_with (go_at_call 52; refine (REG.out _).mono ?_; rintro e w3 ⟨rfl, rfl⟩)
          exact bodyPost_ret (retR (t.ret Z54 rfl).1 Try.results54 _ rfl) rfl ⟨by rw [EV.out]; rfl, (t.ret Z54 rfl).2⟩
        case true =>
          have hnext : RegTo ks (k + 1) := HYES.out hz
          rw [hz] at REG
          clear hz HNO HYES hall
          go_wp2_with (go_at_call 52; refine (REG.out _).mono ?_; rintro e w3 ⟨rfl, rfl⟩)
          go_roundw
          case rel => exact ⟨k + 1, by omega, by go_num, hnext, t⟩
          case measure => simp [intOf]; omega
      · obtain rfl : k = n := by omega
        have hv : ks.all regR = true := by have := hall; unfold RegTo at this; rwa [List.take_of_length_le (by rw [HN.out]; omega)] at this
        have EV := Lib.hid (EVY.out hv)
        have CALL := Lib.hid (HT2.out hv _ t)
        clear hall hv HT2 EVB EVY hks
        go_wp2_with fail
        refine CALL.out.mono ?_
        rintro e w3 ⟨rfl, t3⟩
        by_cases he : er = 0
        · subst he
          have EV2 : Hid (guardR L x ks (M, 0) = (M, 0)) := by show _ = _; rw [EV.out, if_pos rfl]
          clear EV
          have l3 := run_loadR t3.r
          have s3 := run_storeR t3.r.len t3.z.blk rfl
          go_wp2_with fail
          exact bodyPost_ret (retR (t3.ret M t3.r.len).1 Try.results54 _ rfl) rfl ⟨by rw [EV2.out]; rfl, (t3.ret M t3.r.len).2⟩
        · have s3 := run_storeR (L := Z54) rfl t3.z.blk rfl
          have EV2 : Hid (guardR L x ks (M, er) = (Z54, er)) := by show _ = _; rw [EV.out, if_neg he]
          clear EV
          go_wp2_with fail
          exact bodyPost_ret (retR (t3.ret Z54 rfl).1 Try.results54 _ rfl) rfl ⟨by rw [EV2.out]; rfl, (t3.ret Z54 rfl).2⟩
end Go.Proofs.Ytmddbpkojboogaa
