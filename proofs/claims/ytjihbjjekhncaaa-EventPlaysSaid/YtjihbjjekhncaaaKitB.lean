/- Bytes that a call appends, and turns into strings: small laws of the seat's own. -/
import Derived.Test.YtjihbjjekhncaaaKit
import Derived.Maps.AppendAt
import Derived.Laws.BytesString
namespace Go.Proofs.Ytjihbjjekhncaaa
open Go.RowKit

theorem bv_append (xs ys : List UInt8) : bv (xs ++ ys) = bv xs ++ bv ys := by simp [bv]
theorem bv_one (xs : List UInt8) : ∀ u ∈ bv xs, u.oneCell' = true := by
  intro u hu
  obtain ⟨c, _, rfl⟩ := List.mem_map.1 hu
  rfl
/-- a slice of bytes of the call's own. -/
def OwnB (w : World) (base : Nat) (e : TypeId) (v : Value) (bs : List UInt8) : Prop := w.ownsRow base e 1 v bs.length (bv bs)
theorem OwnB.made (w : World) (base : Nat) (e : TypeId) (hb : base ≤ w.heap.size) : OwnB (w.alloc (.cells #[] e)) base e (.slice (some ⟨w.heap.size, 0, none⟩) 0 0) [] :=
  World.ownsRow_made w #[] 0 hb (by decide) (by simp)
theorem OwnB.nil_ (w : World) (base : Nat) (e : TypeId) : OwnB w base e (.slice none 0 0) [] := World.ownsRow_nil w base e 1
theorem OwnB.open_ {w : World} {base : Nat} {e : TypeId} {v : Value} {bs : List UInt8} (h : OwnB w base e v bs) : ∃ A c, v = .slice A bs.length c ∧ Bytes w w.heap.size A bs ∧ bs.length ≤ maxLen := by
  rcases h.2 with ⟨hv, hn⟩ | ⟨g, cap, cur, hv, hg, hh, hc, hm, hz, ht⟩
  · refine ⟨none, 0, by rw [hv, hn], ?_, by rw [hn]; decide⟩
    have : bs = [] := List.eq_nil_of_length_eq_zero hn
    subst this
    exact Reads.none_
  · refine ⟨some ⟨g, 0, none⟩, cap, hv, ⟨by rw [bv_len, Nat.mul_one], fun _ => ⟨_, rfl, ?_, fun j u hu => ?_⟩⟩, by omega⟩
    · rcases Nat.lt_or_ge g w.heap.size with h' | h'
      · exact h'
      · rw [Array.getElem?_eq_none h'] at hh; cases hh
    · have hadd : (⟨g, 0, none⟩ : Addr).add j = ⟨g, j, none⟩ := by unfold Addr.add; split <;> simp_all
      rw [hadd, cell_of_row w g j cur e (0, 0) hh]
      rw [← ht] at hu
      rw [List.getElem?_take] at hu
      split at hu
      · simpa using hu
      · cases hu
theorem add_comm' (a b : Nat) : a + b = b + a := Nat.add_comm a b
theorem run_app {P : Program} (w : World) (base : Nat) (t ty e : TypeId) (i : TypeInfo) (ht : P.underlying t = some (.slice e)) (hi : P.info? e = some i) (hz : i.zero = some (.int .u8 0))
    (hs : i.size = 1) (hby : i.bytes = 1) (v : Value) (xs ys : List UInt8) (hown : OwnB w base e v xs) (B : Nat) (A : Option Addr) (c : Nat) (hr : Bytes w B A ys)
    (hlen : xs.length + ys.length ≤ 140737488355328) (hbase : base ≤ w.heap.size) :
    ∃ v' w', (Builtin.append_ #[t, t] ty #[v, .slice A ys.length c]).run P w = .ok v' w' ∧ OwnB w' base e v' (xs ++ ys) ∧ w.grownBy w' v.ownBlock ∧ (v'.ownBlock = v.ownBlock ∨ v'.ownBlock = some w.heap.size) := by
  have hmax : xs.length + ys.length ≤ maxLen := by unfold maxLen; omega
  rcases Nat.eq_zero_or_pos ys.length with h0 | h0
  · have hy : ys = [] := List.eq_nil_of_length_eq_zero h0
    subst hy
    rcases A with _ | ad
    · refine ⟨v, w, ?_, by simpa using hown, World.grownBy.refl w _, .inl rfl⟩
      rcases hown.2 with ⟨rfl, hn⟩ | ⟨g, cap, cur, rfl, _, _, hnc, _⟩
      · simp [Builtin.append_, run_underlying ht, sizeOf, typeInfo, hi, Builtin.lenOf, Builtin.firstCells]
      · simp [Builtin.append_, run_underlying ht, sizeOf, typeInfo, hi, Builtin.lenOf, Builtin.firstCells, hnc, storeCells]
    · obtain ⟨v', w', hrun, h2, h3, _, h5⟩ := run_append_own_at (P := P) w base t ty e i (.int .u8 0) 1 1 ht hi hz hs hby rfl (by omega) v xs.length (bv xs) hown ad 0 c [] (by simp) (by intro j u hu; simp at hu) (by intro u hu; cases hu) (by simpa using hmax) (by simpa using hlen) hbase
      exact ⟨v', w', hrun, by unfold OwnB; simpa using h2, h3, h5⟩
  · obtain ⟨ad, rfl, _, hc⟩ := hr.2 h0
    obtain ⟨v', w', hrun, h2, h3, _, h5⟩ := run_append_own_at (P := P) w base t ty e i (.int .u8 0) 1 1 ht hi hz hs hby rfl (by omega) v xs.length (bv xs) hown ad ys.length c (bv ys) (by rw [bv_len, Nat.mul_one]) hc (bv_one ys) hmax (by omega) hbase
    exact ⟨v', w', hrun, by unfold OwnB; rw [bv_append, List.length_append]; exact h2, h3, h5⟩
section
variable {P : Program} {ops : Array Oper} {Q : Exit → Act → World → Prop} {a : Act} {w : World} {rest : List Oper} {o : Oper}
/-- an operation that is wanted, guarded or not. -/
theorem wpList_wanted (hw : Region.wanted o (yielded ops a.tmps) = true) (h : o.wp P a w (wpList P ops Q rest) Q) : wpList P ops Q (o :: rest) a w := by
  unfold wpList
  rw [if_pos hw]
  exact .inl h
/-- append of bytes onto the call's own, guarded or not: what is there then is a slice of all of them, in the old row or in a new one. -/
theorem wpList_app (hw : Region.wanted o (yielded ops a.tmps) = true) (s x : Operand) (t : TypeId) (ho : o.op = .call { callee := .builtin .append, args := #[s, x], argTypes := #[t, t] })
    (base : Nat) (e : TypeId) (v : Value) (xs ys zs : List UInt8) (B : Nat) (A : Option Addr) (c : Nat) (hs : a.eval s = v) (hx : a.eval x = .slice A ys.length c) (hz : xs ++ ys = zs)
    (hrun : ∃ v' w', (Builtin.append_ #[t, t] o.type #[v, .slice A ys.length c]).run P w = .ok v' w' ∧ OwnB w' base e v' (xs ++ ys) ∧ w.grownBy w' v.ownBlock ∧ (v'.ownBlock = v.ownBlock ∨ v'.ownBlock = some w.heap.size))
    (w0 : World) (hbel : Below base w0 w) (hown : ∀ k, v.ownBlock = some k → base ≤ k) (hbase : base ≤ w.heap.size)
    (h : ∀ A' c' w', OwnB w' base e (.slice A' zs.length c') zs → Bytes w' w'.heap.size A' zs → zs.length ≤ maxLen → w.grownBy w' v.ownBlock → Below base w0 w' → base ≤ w'.heap.size → wpList P ops Q rest (a.put o.dst (.slice A' zs.length c')) w') : wpList P ops Q (o :: rest) a w := by
  subst hz
  obtain ⟨v', w', hr, h2, h3, h4⟩ := hrun
  refine wpList_wanted hw ?_
  unfold Oper.wp execOp
  simp only [ho, resolve, invoke, builtin, Sem.run_bind, Sem.run_pure, Result.andThen_ok, List.map_toArray, List.map_cons, List.map_nil, hs, hx, hr]
  obtain ⟨A', c', rfl, hB, hl⟩ := h2.open_
  exact h A' c' w' h2 hB hl h3 (hbel.grown h3 hbase hown) (Nat.le_trans hbase h3.size)
end
theorem made_zero (k : Nat) : madeCells (Value.int .u8 0).cells k = (bv (List.replicate k 0)).toArray := by
  apply Array.ext'
  simp [madeCells, bv, Value.cells, Nat.mod_one, Array.toList_range, List.map_const']
theorem run_make_zero {P : Program} (w : World) (t e : TypeId) (i : TypeInfo) (ht : P.underlying t = some (.slice e)) (hi : P.info? e = some i) (hz : i.zero = some (.int .u8 0)) (hs : i.size = 1) (hby : i.bytes = 1)
    (k : Nat) (hk : k ≤ 281474976710656) : (Instr.makeSlice t (.int .i64 (k : Int)) (.int .i64 (k : Int))).run P w = .ok (.slice (some ⟨w.heap.size, 0, none⟩) k k) (w.alloc (.cells (bv (List.replicate k 0)).toArray e)) := by
  have h := run_make (P := P) w t e i (.int .u8 0) ht hi hz .i64 .i64 (k : Int) (k : Int) (by omega) (by omega) (by rw [hby]; omega) (by omega)
  simp only [Int.toNat_natCast, hs, Nat.mul_one, made_zero] at h
  exact h
/-- bytes as a string. -/
def strB (bs : List UInt8) : ByteArray := ⟨bs.toArray⟩
theorem push_all (bs : List UInt8) : ∀ s : ByteArray, (bs.map fun c => (c.toNat : Int)).foldl (fun r n => r.push (UInt8.ofNat n.toNat)) s = ⟨s.data ++ bs.toArray⟩ := by
  induction bs with
  | nil => intro s; simp
  | cons c l ih =>
    intro s
    rw [List.map_cons, List.foldl_cons, ih]
    simp [ByteArray.push]
theorem run_str {P : Program} (w : World) (src dst e : TypeId) (hs : P.underlying src = some (.slice e)) (he : P.underlying e = some (.int .u8)) (hd : P.underlying dst = some .string)
    (B : Nat) (A : Option Addr) (c : Nat) (bs : List UInt8) (hr : Bytes w B A bs) : (convert src dst (.slice A bs.length c)).run P w = .ok (.string (strB bs)) w := by
  rw [run_convert_bytes_string w src dst e A bs.length c hs he hd]
  rcases A with _ | ad
  · have h0 : bs.length = 0 := by
      rcases Nat.eq_zero_or_pos bs.length with h | h
      · exact h
      · obtain ⟨_, h', _⟩ := hr.2 h; cases h'
    have : bs = [] := List.eq_nil_of_length_eq_zero h0
    subst this
    simp [Conv.bytesToString, strB]; rfl
  · have hl : (loadCells ad bs.length).run P w = .ok ((bs.map fun c => (c.toNat : Int)).map (Value.int .u8)).toArray w := by
      have h := run_loadCells_list (P := P) w ad (bv bs) (fun j v hv => by
        have hj : 0 < bs.length := by
          rcases Nat.eq_zero_or_pos bs.length with h | h
          · have : bs = [] := List.eq_nil_of_length_eq_zero h
            subst this; simp [bv] at hv
          · exact h
        obtain ⟨ad', h', _, hc⟩ := hr.2 hj
        injection h' with h'; subst h'
        exact hc j v hv)
      rw [bv_len] at h
      rw [h]; simp [bv, List.map_map]
    rw [run_bytesToString w ad bs.length c _ hl, push_all]
    simp [strB]
end Go.Proofs.Ytjihbjjekhncaaa
