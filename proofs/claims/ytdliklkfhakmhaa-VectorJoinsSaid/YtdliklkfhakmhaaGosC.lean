import Derived.Test.YtdliklkfhakmhaaGosB
namespace Go.Proofs.Ytdliklkfhakmhaa
open Go.RowKit
attribute [local go_sem ↓] exec_loadV exec_storeV exec_buildV Go.wp_at_zero Go.wp_at_succ
/-- what the region z is known to know. -/
def ofV (P : Option (List (List Nat))) (z : Int) : List Nat :=
  match P with
  | none => Z6
  | some K => if 1 ≤ z ∧ z ≤ 6 then (K[(z - 1).toNat]?).getD Z6 else Z6
/-- peers that are there, or are not. -/
def PeerAt (W : World) (p : Option Addr) (P : Option (List (List Nat))) : Prop :=
  (p = none ∧ P = none) ∨ ∃ g t K, p = some ⟨g, 0, none⟩ ∧ P = some K ∧ Six6 K ∧ Blk W g t (peersA K)
theorem PeerAt.below {W W' : World} {p : Option Addr} {P : Option (List (List Nat))} (h : PeerAt W p P) (hb : Below W.heap.size W W') : PeerAt W' p P := by
  rcases h with h | ⟨g, t, K, h1, h2, h3, h4⟩
  · exact .inl h
  · exact .inr ⟨g, t, K, h1, h2, h3, h4.below hb h4.lt⟩
theorem ofV_len {W : World} {p : Option Addr} {P : Option (List (List Nat))} (h : PeerAt W p P) (z : Int) : (ofV P z).length = 6 := by
  rcases h with ⟨_, rfl⟩ | ⟨g, t, K, _, rfl, h3, _⟩
  · rfl
  · unfold ofV
    by_cases hz : 1 ≤ z ∧ z ≤ 6
    · simp only [if_pos hz]
      have hk : (z - 1).toNat < K.length := by rw [h3.six]; omega
      rw [List.getElem?_eq_getElem hk]
      exact h3.each _ (List.getElem_mem hk)
    · simp only [if_neg hz]; rfl
theorem of_any {w : World} {p : Option Addr} {P : Option (List (List Nat))} (h : PeerAt w p P) (z : Int) : Calls Try.prog 38 #[.pointer p, .int .i64 z] w fun e w' => e = .returned (.agg (vecA (ofV P z))) ∧ Below w.heap.size w w' := by
  rcases h with ⟨rfl, rfl⟩ | ⟨g, t, K, rfl, rfl, h3, h4⟩
  · exact of_nil z w
  · unfold ofV
    rcases reg_cases z with ⟨k, hk, rfl⟩ | hz
    · have hkl : k < K.length := by rw [h3.six]; exact hk
      have e1 : (1 : Int) ≤ (k : Int) + 1 ∧ (k : Int) + 1 ≤ 6 := by omega
      have e2 : ((k : Int) + 1 - 1).toNat = k := by omega
      simp only [if_pos e1, e2, List.getElem?_eq_getElem hkl, Option.getD_some]
      exact of_yes g t K h3 k hk K[k] (List.getElem?_eq_getElem hkl) w h4
    · have e1 : ¬ ((1 : Int) ≤ z ∧ z ≤ 6) := by omega
      simp only [if_neg e1]
      exact of_no g z hz w
/-- append of one vector onto the call's own. -/
theorem wpList_appV {ops : Array Oper} {rest : List Oper} {o : Oper} {a : Act} {w : World} {Q : Exit → Act → World → Prop} (hw : Region.wanted o (yielded ops a.tmps) = true) (s x : Operand) (ho : o.op = .call { callee := .builtin .append, args := #[s, x], argTypes := #[25, 25] })
    (base : Nat) (v : Value) (l : List (List Nat)) (L : List Nat) (hL : L.length = 6) (g c : Nat) (hs : a.eval s = v) (hx : a.eval x = .slice (some ⟨g, 0, none⟩) 1 c) (hB : Blk w g 24 (vecL L).toArray) (hown : OwnV w base v l) (hall : ∀ u ∈ l, u.length = 6)
    (hlen : l.length + 1 ≤ 1099511627776) (w0 : World) (hbel : Below base w0 w) (hbase : base ≤ w.heap.size) (n : Nat) (hn : n = l.length + 1)
    (h : ∀ A' c' w', OwnV w' base (.slice A' n c') (l ++ [L]) → Below base w0 w' → base ≤ w'.heap.size → wpList Try.prog ops Q rest (a.put o.dst (.slice A' n c')) w') : wpList Try.prog ops Q (o :: rest) a w := by
  subst hn
  obtain ⟨v', w', hr, h2, h3⟩ := run_appV w base v l hown L hL g hB c hlen hbase o.type
  refine wpList_wanted hw ?_
  unfold Oper.wp execOp
  simp only [ho, resolve, invoke, builtin, Sem.run_bind, Sem.run_pure, Result.andThen_ok, List.map_toArray, List.map_cons, List.map_nil, hs, hx, hr]
  have hall2 : ∀ u ∈ l ++ [L], u.length = 6 := fun u hu => by
    rcases List.mem_append.1 hu with h | h
    · exact hall u h
    · rw [List.mem_singleton.1 h]; exact hL
  obtain ⟨A', c', rfl, _, _⟩ := h2.open_ hall2
  rw [List.length_append, List.length_singleton] at h2 ⊢
  have hrow : ∀ k, v.ownBlock = some k → base ≤ k := by
    intro k hk
    rcases hown.2 with ⟨rfl, _⟩ | ⟨g', cap, cur, rfl, hg, _⟩
    · cases hk
    · simp [Value.ownBlock] at hk; omega
  exact h A' c' w' h2 (hbel.grown h3 hbase hrow) (Nat.le_trans hbase h3.size)
/-- a slice of numbers. -/
def Nums (w : World) (B : Nat) (A : Option Addr) (zs : List Int) : Prop :=
  0 < zs.length → ∃ b off, A = some ⟨b, off, none⟩ ∧ b < B ∧ ∀ i (z : Int), zs[i]? = some z → w.cell? ⟨b, off + i, none⟩ = some (.int .i64 z)
theorem Nums.below {w w' : World} {B : Nat} {A : Option Addr} {zs : List Int} (h : Nums w B A zs) (hb : Below B w w') : Nums w' B A zs := fun h0 => by
  obtain ⟨b, off, hA, hB, hc⟩ := h h0
  exact ⟨b, off, hA, hB, fun i z hi => (hb.cell (p := ⟨b, off + i, none⟩) hB).trans (hc i z hi)⟩
theorem Nums.more {w : World} {B B' : Nat} {A : Option Addr} {zs : List Int} (h : Nums w B A zs) (hB : B ≤ B') : Nums w B' A zs := fun h0 => by
  obtain ⟨b, off, hA, hb, hc⟩ := h h0
  exact ⟨b, off, hA, Nat.lt_of_lt_of_le hb hB, hc⟩
set_option maxRecDepth 100000 in
theorem least_any {p : Option Addr} {P : Option (List (List Nat))} (A : Option Addr) (n c : Nat) (zs : List Int) (w : World) (hP : PeerAt w p P) (hA : Nums w w.heap.size A zs) (hn : n = zs.length) (hmx : zs.length ≤ 1099511627775) :
    Calls Try.prog 40 #[.pointer p, .slice A n c] w fun e w' => e = .returned (.agg (vecA (meetV (zs.map (ofV P))))) ∧ Below w.heap.size w w' := by
  have HN := Lib.hid hn
  clear hn
  have hz : n ≤ 1099511627775 := by rw [HN.out]; exact hmx
  have hb1 := (Below.refl (w.heap.size + 1) (w.alloc (.cells (vecA Z6) 24)))
  have hb0 := (Below.refl w.heap.size w).alloc (Nat.le_refl _) (.cells (vecA Z6) 24)
  have hR := Blk.new w 24 (vecA Z6)
  have b1 : ∀ (L : List Nat) (W : World), L.length = 6 → (buildV 1 #[(0, .agg (vecA L))]).run Try.prog W = .ok (.slice (some ⟨W.heap.size, 0, none⟩) 1 1) (W.alloc (.cells (vecL L).toArray 24)) := fun L W h => run_buildV1 h
  have B1 := Lib.hid b1
  clear b1
  go_enter Try.func40, Try.ntmps40
  go_wp2_with fail
  obtain ⟨W1, hW1⟩ : ∃ W1, Hid (W1 = w.alloc (.cells (vecA Z6) 24)) := ⟨_, Lib.hid rfl⟩
  go_loopw [5, 10] (fun v i wr => ∃ k : Nat, k ≤ n ∧ i = .int .i64 (k : Int) ∧ (∃ A' c', v = .slice A' k c' ∧ OwnV wr (w.heap.size + 1) (.slice A' k c') ((zs.take k).map (ofV P))) ∧ Below (w.heap.size + 1) W1 wr ∧ w.heap.size + 1 ≤ wr.heap.size) (fun _ i _ => n - (intOf i).toNat)
  case atStart => exact ⟨0, by omega, rfl, ⟨none, 0, rfl, OwnV.nil_ _ _⟩, by rw [hW1.out]; exact hb1, by simp⟩
  case round =>
    obtain ⟨k, hk, rfl, ⟨A', c', rfl, hown⟩, hbw, hsz⟩ := hrel
    have hbw' : Below (w.heap.size + 1) (w.alloc (.cells (vecA Z6) 24)) wr := by rw [← hW1.out]; exact hbw
    have hbx : Below w.heap.size w wr := hb0.trans (hbw'.mono (by omega))
    have hP2 : PeerAt wr p P := by
      rcases hP with h | ⟨g, t, K, h1, h2, h3, h4⟩
      · exact .inl h
      · exact .inr ⟨g, t, K, h1, h2, h3, h4.below hbx h4.lt⟩
    by_cases hlt : k < n
    · have hkl : k < zs.length := by rw [← HN.out]; exact hlt
      obtain ⟨b, off, rfl, hB, hc⟩ := (hA.below hbx) (by omega)
      have hcell := hc k zs[k] (List.getElem?_eq_getElem hkl)
      have t1 := of_any hP2 zs[k]
      have h6 := ofV_len hP2 zs[k]
      have hacc : (zs.take (k + 1)).map (ofV P) = (zs.take k).map (ofV P) ++ [ofV P zs[k]] := by rw [List.take_succ_eq_append_getElem hkl, List.map_append]; rfl
      have hall : ∀ u ∈ (zs.take k).map (ofV P), u.length = 6 := fun u hu => by
        obtain ⟨z, _, rfl⟩ := List.mem_map.1 hu
        exact ofV_len hP2 z
      have hlen : ((zs.take k).map (ofV P)).length = k := by rw [List.length_map, List.length_take]; omega
      generalize (zs.take k).map (ofV P) = acc at hown hacc hall hlen
      generalize ofV P zs[k] = L at t1 h6 hacc
      generalize zs[k] = z at hcell t1
      have HACC := Lib.hid hacc
      have HALL := Lib.hid hall
      have HLEN := Lib.hid hlen
      have H6 := Lib.hid h6
      have T1 := Lib.hid t1
      clear hacc hall hlen h6 t1 hc hA hP hP2 hb0 hb1 hR hbw'
      have b1 : ∀ W : World, (buildV 1 #[(0, .agg (vecA L))]).run Try.prog W = .ok (.slice (some ⟨W.heap.size, 0, none⟩) 1 1) (W.alloc (.cells (vecL L).toArray 24)) := fun W => B1.out L W H6.out
      go_wp2_with fail
      refine T1.out.mono ?_
      rintro e w2 ⟨rfl, hb2⟩
      have own2 := hown.below hb2
      have hbw2 := hbw.trans (hb2.mono hsz)
      have hsz2 : w.heap.size + 1 ≤ w2.heap.size := Nat.le_trans hsz hb2.size
      clear hown hbw hb2 T1
      have own3 : OwnV (w2.alloc (.cells (vecL L).toArray 24)) (w.heap.size + 1) (.slice A' k c') acc := own2.below ((Below.refl _ _).alloc (Nat.le_refl _) _)
      have hbw3 := hbw2.alloc hsz2 (.cells (vecL L).toArray 24)
      have hlt3 : acc.length + 1 ≤ 1099511627776 := by rw [HLEN.out]; omega
      go_wp2_with (refine wpList_appV rfl _ _ rfl (w.heap.size + 1) _ acc L H6.out w2.heap.size 1 rfl rfl (Blk.new w2 _ _) own3 HALL.out hlt3 W1 hbw3 (by simp; omega) (k + 1) (by rw [HLEN.out]) ?_; intro A2 c2 w4 own4 hbw4 hsz4; clear own2 own3 hbw2 hbw3 hlt3)
      go_roundw
      case rel => exact ⟨k + 1, by omega, by go_num, ⟨A2, c2, rfl, by rw [HACC.out]; exact own4⟩, hbw4, hsz4⟩
      case measure => simp [intOf]; omega
    · obtain rfl : k = n := by omega
      have htk : (zs.take k).map (ofV P) = zs.map (ofV P) := by rw [HN.out, List.take_length]
      rw [htk] at hown
      have hall : ∀ u ∈ zs.map (ofV P), u.length = 6 := fun u hu => by
        obtain ⟨z, _, rfl⟩ := List.mem_map.1 hu
        exact ofV_len hP2 z
      have hlen : (zs.map (ofV P)).length = zs.length := List.length_map _
      obtain ⟨A2, c2, hv, hVs, _⟩ := hown.open_ hall
      rw [hlen, ← HN.out] at hv
      injection hv with hA2 _ hc2
      subst hA2; subst hc2
      have hm6 := meetV_len hall
      have t1 := meet_any A' k c' (zs.map (ofV P)) wr hVs hall (by rw [hlen, HN.out]) (by rw [hlen]; omega)
      have hRw : Blk wr w.heap.size 24 (vecA Z6) := hR.below hbw' (by simp)
      generalize hM0 : meetV (zs.map (ofV P)) = M at t1 hm6
      have HM0 := Lib.hid hM0
      clear hM0
      have T1 := Lib.hid t1
      have HM := Lib.hid hm6
      clear t1 hm6 hall hlen htk hVs hown hA hP hP2 hb1 hR hbw' hbw B1
      have st : ∀ W, Blk W w.heap.size 24 (vecA Z6) → (storeV (.pointer (some ⟨w.heap.size, 0, none⟩)) (.agg (vecA M))).run Try.prog W = .ok () (W.setRow w.heap.size (vecA M)) := fun W h => run_storeV HM.out h rfl
      go_wp2_with fail
      refine T1.out.mono ?_
      rintro e w2 ⟨rfl, hb2⟩
      have hR2 := hRw.below hb2 hRw.lt
      have hbf := hbx.trans (hb2.mono hbx.size)
      clear hb2 hRw T1 hbx
      go_wp2_with fail
      exact bodyPost_ret (ret_vec _ M HM.out (hR2.row (vecA M)) Try.results40 _ rfl) rfl ⟨by rw [HM0.out], below_setRow hbf (Nat.le_refl _) _⟩
theorem lacks_nil (z : Int) (q : Option Addr) (m : Int) (w : World) : Calls Try.prog 41 #[.pointer none, .int .i64 z, .pointer q, .int .i64 m] w fun e w' => e = .returned (.slice none 0 0) ∧ Below w.heap.size w w' := by
  go_enter Try.func41, Try.ntmps41
  go_wp2_with fail
  go_ret
  exact ⟨rfl, Below.refl _ _⟩
end Go.Proofs.Ytdliklkfhakmhaa
