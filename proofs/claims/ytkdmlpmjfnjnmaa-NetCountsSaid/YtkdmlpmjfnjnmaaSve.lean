import Derived.Test.YtkdmlpmjfnjnmaaSvd
/-! operations that leave memory as it is: bytes, slices. -/
namespace Go.Proofs.Ytkdmlpmjfnjnmaa.Sv
open Go Go.RowKit

variable {P : Program} {ρ : Ctx} {E : Env} {H : AH} {w : World}

theorem bytes_sound : ∀ {l : List AV} {s : List Nat} {vs : List Value}, bytes? l = some s → VRs ρ E l vs → vs = (s.map Int.ofNat).map (Value.int .u8) ∧ ∀ x ∈ s, x < 256
  | [], s, vs, h, hv => by cases hv; simp [bytes?] at h; subst h; exact ⟨rfl, by simp⟩
  | a :: r, s, vs, h, hv => by
    unfold bytes? at h
    split at h
    · rename_i he
      cases he
    · rename_i n r' he
      cases he
      split at h
      · rename_i l hl
        cases hv with
        | cons _ v _ m h1 h2 =>
          cases h1
          have h3 : Nat.blt n 256 = true ∧ some (n :: l) = some s := by
            cases hb : Nat.blt n 256 <;> simp [hb] at h
            exact ⟨rfl, by rw [h]⟩
          have hn : n < 256 := Nat.lt_of_succ_le (Nat.le_of_ble_eq_true h3.1)
          simp at h3
          obtain ⟨_, rfl⟩ := h3
          obtain ⟨rfl, h5⟩ := bytes_sound hl h2
          exact ⟨rfl, fun x hx => by rcases List.mem_cons.1 hx with rfl | hx; exact hn; exact h5 x hx⟩
      · cases h
    · cases h

theorem VRs.nums (s : List Nat) : VRs ρ E (s.map fun x => .int .u8 (.ofNat x)) (s.map fun x => .int .u8 (Int.ofNat x)) := by
  induction s with
  | nil => exact .nil
  | cons a s ih => exact .cons _ _ _ _ (.int _ _) ih
theorem strOf (s : List Nat) (h : ∀ x ∈ s, x < 256) : ((s.map UInt8.ofNat).map fun b => Value.int .u8 (b.toNat : Int)) = s.map fun x => .int .u8 (Int.ofNat x) := by
  rw [List.map_map]
  refine List.map_congr_left fun x hx => ?_
  have := h x hx
  simp [Nat.mod_eq_of_lt this]

theorem lenOf_sound {x : AV} {n : Nat} {v : Value} (h : lenOf x = some n) (hv : VR ρ E x v) (w : World) : (Builtin.lenOf v).run P w = .ok n w := by
  cases hv <;> simp [lenOf] at h <;> (try subst h) <;> simp [Builtin.lenOf, ByteArray.size]
theorem elems_sound (hR : Rel ρ E H w) {n : Nat} {x : AV} {m : Nat} {l : List AV} {v : Value} (h : elems H n x m = some l) (hv : VR ρ E x v) :
    ∃ vs : Array Value, (∀ W : World, W.heap = w.heap → (Builtin.firstCells n m v).run P W = .ok vs W) ∧ VRs ρ E l vs.toList ∧ vs.size = l.length := by
  unfold elems at h
  split at h
  · cases hv
    simp at h; subst h
    exact ⟨#[], fun W _ => by simp [Builtin.firstCells], .nil, rfl⟩
  · cases hv
    simp at h; subst h
    exact ⟨#[], fun W _ => by simp [Builtin.firstCells, loadCells, loadCellsFrom], .nil, rfl⟩
  · rename_i b off len cap ex
    have hr : ∃ r c', v = .slice (some ⟨r.blk, off, none⟩) len c' ∧ E b = some r := by
      cases hv with
      | sliceX _ _ _ _ r h => exact ⟨r, _, rfl, h⟩
      | sliceG _ _ _ _ c' r h => exact ⟨r, _, rfl, h⟩
    obtain ⟨r, c', rfl, hb⟩ := hr
    rcases cond_split (p := fun z => z = some l) h with ⟨_, h⟩ | ⟨_, h⟩
    · split at h
      · rename_i g cs hc
        obtain ⟨c, elem, fr, hw, _, _, hl, hV, _⟩ := cellsAt_rel hR hc hb
        have hsp := hV.span h
        obtain ⟨_, hle⟩ := span_spec h
        have e : ((c.toList.take cs.length).drop off).take (m * n) = (c.toList.drop off).take (m * n) := by
          rw [List.drop_take, List.take_take]
          congr 1
          omega
        rw [e] at hsp
        exact ⟨((c.toList.drop off).take (m * n)).toArray, fun W hW => by simp [Builtin.firstCells, run_cells (w := W) (by rw [hW]; exact hw) (n := m * n) (off := off) (by omega)], hsp, hsp.length⟩
      · cases h
    · cases h
  · rename_i s
    replace h : firsts m (s.map fun x => .int .u8 (.ofNat x)) = some l := by
      rcases cond_split (p := fun z => z = some l) h with ⟨_, h⟩ | ⟨_, h⟩
      · exact h
      · cases h
    cases hv with
    | str _ hs =>
      obtain ⟨rfl, hm⟩ := firsts_spec h
      refine ⟨_, fun W _ => rfl, ?_⟩
      have e : (Array.map (fun b : UInt8 => Value.int .u8 (b.toNat : Int)) (ByteArray.extract ⟨⟨s.map UInt8.ofNat⟩⟩ 0 m).data).toList = (s.take m).map fun x => .int .u8 (Int.ofNat x) := by
        rw [Array.toList_map, ByteArray.data_extract, Array.toList_extract, List.extract_eq_take_drop]
        simp only [Nat.sub_zero, List.drop_zero, ← List.map_take]
        exact strOf _ fun x hx => hs x (List.mem_of_mem_take hx)
      have := VRs.nums (ρ := ρ) (E := E) (s.take m)
      refine ⟨?_, ?_⟩
      · rw [e, ← List.map_take]; exact this
      · rw [← Array.length_toList, e]; simp
  · cases h

/-- a string's bytes in new memory. -/
theorem run_stringToBytes (e : TypeId) (s : ByteArray) (w : World) : ∃ cap w', s.size ≤ cap ∧ (Conv.stringToBytes e s).run P w = .ok (.slice (some ⟨w.heap.size, 0, none⟩) s.size cap) w' ∧
    ∃ c : Array Value, Pushed w w' (.cells c e (c.size, c.size + 1)) ∧ c.size = cap ∧ c.toList.take s.size = s.data.toList.map fun b => .int .u8 (b.toNat : Int) := by
  refine ⟨Question.cut (.appendCap s.size 0 e) (w.tape w.drawn (.appendCap s.size 0 e)), ?_⟩
  generalize hcap : Question.cut (.appendCap s.size 0 e) (w.tape w.drawn (.appendCap s.size 0 e)) = cap
  have hle : s.size ≤ cap := by rw [← hcap]; simp only [Question.cut]; omega
  have hsz : s.data.size = s.size := rfl
  let c : Array Value := (s.data.map fun b => Value.int .u8 (b.toNat : Int)) ++ Array.replicate (cap - s.size) (.int .u8 0)
  have hc : c.size = cap := by simp [c, hsz]; omega
  let w' : World := { ({ w with drawn := w.drawn + 1 } : World) with heap := w.heap.push (.cells c e (c.size, c.size + 1)) }
  refine ⟨w', hle, ?_, c, ⟨rfl, rfl, rfl, by simp [w'], by simp [w'], fun j hj => ?_⟩, hc, ?_⟩
  · have hm : ∀ W : World, W.heap = w.heap.push (.cells c e) → (markStringish ⟨w.heap.size, 0, none⟩).run P W = .ok () { W with heap := w.heap.push (.cells c e (c.size, c.size + 1)) } := by
      intro W hW
      have hg : W.heap[w.heap.size]? = some (.cells c e) := by rw [hW]; simp
      have hs : W.shape? w.heap.size = some (e, c.size) := by unfold World.shape?; rw [hg]
      simp only [markStringish, shape, freeze, Sem.run_bind, Sem.run, hs, Result.andThen_ok]
      congr 1
      simp only [World.freeze, Nat.one_ne_zero, if_false]
      congr 1
      apply Array.ext_getElem?
      intro i
      rw [Array.getElem?_modify, hW]
      by_cases hi : w.heap.size = i
      · subst hi; simp
      · rw [if_neg hi, Array.getElem?_push, Array.getElem?_push, if_neg (Ne.symm hi), if_neg (Ne.symm hi)]
    unfold Conv.stringToBytes
    simp only [Sem.run_bind, choose, Sem.run, Question.forced, Bool.false_eq_true, if_false, Result.andThen_ok, newRow, newObj, hcap, Sem.run_pure]
    rw [hm _ rfl]
    rfl
  · simp only [w', Array.getElem?_push]
    rw [if_neg (by omega)]
  · simp only [c, Array.toList_append, Array.toList_map]
    rw [List.take_append_of_le_length (by simp [hsz]), List.take_of_length_le (by simp [hsz])]

theorem foldl_push : ∀ (s : List Nat) (r : ByteArray), (s.map Int.ofNat).foldl (fun r n => r.push (UInt8.ofNat n.toNat)) r = ⟨⟨r.data.toList ++ s.map UInt8.ofNat⟩⟩
  | [], r => by simp
  | a :: s, r => by
    simp only [List.map_cons, List.foldl_cons]
    rw [foldl_push s]
    simp [ByteArray.push, Array.toList_push]
theorem byte_row {l : List AV} {vs : List Value} (hb : isByte l) (h : VRs ρ E l vs) : vs = [.int .u8 (natOf l : Int)] ∧ natOf l < 256 := by
  unfold isByte at hb
  split at hb
  · cases h with
    | cons _ _ _ _ h t =>
      cases h; cases t
      obtain ⟨h0, h1⟩ := hb
      refine ⟨?_, by simp only [natOf]; omega⟩
      simp only [natOf]
      rw [Int.toNat_of_nonneg h0]
  · cases h with
    | cons _ _ _ _ h t =>
      cases h; cases t
      obtain ⟨h0, h1⟩ := hb
      refine ⟨?_, by simp only [natOf]; omega⟩
      simp only [natOf]
      rw [Int.toNat_of_nonneg h0]
  · cases hb
theorem bytes_row {z n off : Nat} {f : Nat → List AV} {c : Array Value} (hb : AllBytes n f) (hsz : off + n * z ≤ c.size) (hlen : ∀ i, i < n → (f i).length = z) (hrow : ∀ i, i < n → VRs ρ E (f i) ((c.toList.drop (off + i * z)).take z)) :
    (c.toList.drop off).take n = (bytesOf n f).map fun (x : Nat) => Value.int .u8 (x : Int) := by
  have hz : 0 < n → z = 1 := fun hn => by
    have h1 := byte_row (hb 0 hn) (hrow 0 hn)
    have h2 := (hrow 0 hn).length
    rw [h1.1] at h2
    rw [← hlen 0 hn, ← h2]; rfl
  apply List.ext_getElem?
  intro i
  by_cases hi : i < n
  · obtain rfl := hz (by omega)
    have h1 := (byte_row (hb i hi) (hrow i hi)).1
    have h2 : c.toList[off + i]? = some (.int .u8 (natOf (f i) : Int)) := by
      have : ((c.toList.drop (off + i * 1)).take 1)[0]? = some (.int .u8 (natOf (f i) : Int)) := by rw [h1]; rfl
      rw [List.getElem?_take, if_pos (by omega), List.getElem?_drop] at this
      simpa using this
    rw [List.getElem?_take, if_pos hi, List.getElem?_drop, h2]
    simp [bytesOf, hi]
  · rw [List.getElem?_eq_none, List.getElem?_eq_none]
    · simp [bytesOf]; omega
    · simp; omega
theorem bytesOf_lt {n : Nat} {f : Nat → List AV} (hb : AllBytes n f) : ∀ x ∈ bytesOf n f, x < 256 := fun x hx => by
  simp only [bytesOf, List.mem_map, List.mem_range] at hx
  obtain ⟨i, hi, rfl⟩ := hx
  have := hb i hi
  unfold isByte at this
  split at this
  · rename_i x e; rw [e]; simp only [natOf]; omega
  · rename_i x e; rw [e]; simp only [natOf]; omega
  · cases this
/-- what data has is there. -/
theorem Rel.row (hR : Rel ρ E H w) {b : Nat} {c : Array Value} {elem : TypeId} {fr : Nat × Nat} (hd : (E.all ρ).dat b = some (.cells c elem fr)) : w.heap[b]? = some (.cells c elem fr) := (hR.dat b _ hd).1
theorem bytel_sound : ∀ {l : List AV} {vs : List Value}, ByteL l → VRs ρ E l vs → vs = ((l.map fun x => natOf [x]).map Int.ofNat).map (Value.int .u8) ∧ ∀ x ∈ l.map (fun x => natOf [x]), x < 256
  | [], vs, h, hv => by cases hv; exact ⟨rfl, by simp⟩
  | a :: r, vs, h, hv => by
    cases hv with
    | cons _ v _ m h1 h2 =>
      obtain ⟨e, hn⟩ := byte_row (h a (.head _)) (VRs.cons _ _ _ _ h1 .nil)
      obtain ⟨e', h5⟩ := bytel_sound (fun x hx => h x (.tail _ hx)) h2
      refine ⟨?_, fun x hx => ?_⟩
      · rw [(List.cons.inj e).1, e']
        rfl
      · rcases List.mem_cons.1 hx with rfl | hx
        · exact hn
        · exact h5 x hx
theorem row_string {z n : Nat} {f : Nat → List AV} {b off cap : Nat} {c : Array Value} {elem : TypeId} {fr : Nat × Nat} (hw : w.heap[b]? = some (.cells c elem fr)) (hb : AllBytes n f) (hsz : off + n * z ≤ c.size) (hlen : ∀ i, i < n → (f i).length = z)
    (hrow : ∀ i, i < n → VRs ρ E (f i) ((c.toList.drop (off + i * z)).take z)) : (Conv.bytesToString (.slice (some ⟨b, off, none⟩) n cap)).run P w = .ok (.string ⟨⟨(bytesOf n f).map UInt8.ofNat⟩⟩) w := by
  have hrow' := bytes_row hb hsz hlen hrow
  have hz : off + n ≤ c.size ∨ n = 0 := by
    by_cases hn : n = 0
    · exact .inr hn
    · refine .inl ?_
      have h1 := byte_row (hb 0 (by omega)) (hrow 0 (by omega))
      have h2 := (hrow 0 (by omega)).length
      rw [h1.1, hlen 0 (by omega)] at h2
      have h2 : 1 = z := h2
      subst h2
      omega
  have hrun := run_cells (P := P) (w := w) (off := off) (n := n) hw hz
  rw [hrow'] at hrun
  have e : (bytesOf n f).map (fun (x : Nat) => Value.int .u8 (x : Int)) = ((bytesOf n f).map Int.ofNat).map (Value.int .u8) := by rw [List.map_map]; rfl
  rw [e] at hrun
  rw [run_bytesToString w _ _ _ _ hrun, foldl_push]
  rfl
theorem no_string (f : Nat → List AV) (a : Option Addr) (c : Nat) : (Conv.bytesToString (.slice a 0 c)).run P w = .ok (.string ⟨⟨(bytesOf 0 f).map UInt8.ofNat⟩⟩) w := by
  have e : bytesOf 0 f = [] := rfl
  rw [e]
  cases a with
  | none => simp [Conv.bytesToString]; rfl
  | some a =>
    have hrun : (loadCells a 0).run P w = .ok (([] : List Int).map (Value.int .u8)).toArray w := by simp [loadCells, loadCellsFrom]
    rw [run_bytesToString w _ _ _ _ hrun]
    rfl
theorem data_string (hR : Rel ρ E H w) {z n : Nat} {f : Nat → List AV} {v : Value} (hv : VR ρ E (.data z n f) v) (hb : AllBytes n f) : (Conv.bytesToString v).run P w = .ok (.string ⟨⟨(bytesOf n f).map UInt8.ofNat⟩⟩) w := by
  cases hv with
  | data z n f b off cap c elem fr hd hcap hsz hlen hrow => exact row_string (E := E) (hR.row hd) hb hsz hlen fun i hi => (hrow i hi).vr
  | data0 z f a c => exact no_string f _ _
  | dataN z f => exact no_string f _ _
theorem seq_rel (hR : Rel ρ E H w) {b z n : Nat} {f : Nat → List AV} (h : seqAt H b = some (z, n, f)) {r : RB} (hb : E b = some r) :
    ∃ (c : Array Value) (elem : TypeId) (fr : Nat × Nat), w.heap[r.blk]? = some (.cells c elem fr) ∧ c.size = r.size ∧ (fr = (0, 0) ∨ fr = (c.size, c.size + 1)) ∧ n * z ≤ c.size ∧ r.esz = z ∧ 0 < z ∧ (∀ i, i < n → (f i).length = z) ∧
      ∀ i, i < n → VRs ρ E (f i) ((c.toList.drop (i * z)).take z) := by
  unfold seqAt at h
  split at h
  · rename_i c z' n' f' hk
    split at h
    · rename_i x hm
      have h' : some (z', n', f') = some (z, n, f) := by
        cases hc : (Nat.beq c b && Nat.beq x b) with
        | false => rw [hc] at h; cases h
        | true => rw [hc] at h; exact h
      cases h'
      obtain ⟨_, k, hk', hB⟩ := hR.blk b r hb
      rw [hk] at hk'; cases hk'
      exact hB
    · cases h
  · cases h
theorem seq_one {b z n : Nat} {f : Nat → List AV} (h : seqAt H b = some (z, n, f)) : H.clsOf b = some b ∧ H.mem.get b = some [b] ∧ ∃ c z n f, H.tr.get b = some (.seq c z n f) := by
  unfold seqAt at h
  split at h
  · rename_i c z' n' f' hk
    split at h
    · rename_i x hm
      cases hc : (Nat.beq c b && Nat.beq x b) with
      | false => rw [hc] at h; cases h
      | true =>
        rw [Bool.and_eq_true] at hc
        obtain rfl := beq_iff'.1 hc.1
        obtain rfl := beq_iff'.1 hc.2
        exact ⟨by simp [AH.clsOf, hk, Blk.cls], hm, _, _, _, _, hk⟩
    · cases h
  · cases h
theorem seq_get {b z n : Nat} {f : Nat → List AV} (h : seqAt H b = some (z, n, f)) : H.tr.get b = some (.seq b z n f) := by
  unfold seqAt at h
  split at h
  · rename_i c z' n' f' hk
    split at h
    · rename_i x hm
      cases hc : (Nat.beq c b && Nat.beq x b) with
      | false => rw [hc] at h; cases h
      | true =>
        rw [hc] at h
        rw [Bool.and_eq_true] at hc
        obtain rfl := beq_iff'.1 hc.1
        cases h
        exact hk
    · cases h
  · cases h
theorem gsl_string (hR : Rel ρ E H w) {b z n m : Nat} {f : Nat → List AV} {v : Value} (hv : VR ρ E (.gsl b n) v) (hs : seqAt H b = some (z, m, f)) (hn : n ≤ m) (hb : AllBytes n f) : (Conv.bytesToString v).run P w = .ok (.string ⟨⟨(bytesOf n f).map UInt8.ofNat⟩⟩) w := by
  cases hv with
  | gsl _ _ cap r h hc hsz =>
    obtain ⟨c, elem, fr, hw, h1, h2, h3, h4, h5, h6, h8⟩ := seq_rel hR hs h
    have hle : n * z ≤ m * z := Nat.mul_le_mul_right z hn
    exact row_string hw hb (z := z) (by omega) (fun i hi => h6 i (by omega)) (fun i hi => by rw [Nat.zero_add]; exact h8 i (by omega))
  | gsl0 _ a => exact no_string f _ _
theorem aConv_sound (hR : Rel ρ E H w) {src dst : TypeId} {x : AV} {v : Value} {K : Res → Bool} (h : aConv P H src dst x K = true) (hv : VR ρ E x v) :
    ∃ q, K q = true ∧ Tells P ρ E (do pure (Next.value (← convert src dst v))) w q := by
  unfold aConv at h
  split at h
  · rename_i sd dd h1 h2
    split at h
    · rename_i l
      split at h
      · refine ⟨_, h, tell ?_ hv⟩
        cases hv
        simp [convert, run_und h1, run_und h2]
      · rename_i e
        split at h
        · rename_i h3
          refine ⟨_, h, ?_⟩
          cases hv with
          | str _ hs =>
            obtain ⟨cap, w', hle, hrun, c, hp, hc, ht⟩ := run_stringToBytes (P := P) e ⟨⟨l.map UInt8.ofNat⟩⟩ w
            refine ⟨w', _, _, c.size, 1, run_v (by simp only [convert, Sem.run_bind, run_und h1, run_und h2, run_und h3, Result.andThen_ok]; exact hrun), hp, fun E' b hE hb => ?_⟩
            have hsz : (⟨⟨l.map UInt8.ofNat⟩⟩ : ByteArray).size = l.length := by simp [ByteArray.size]
            rw [hsz] at hle hrun ht ⊢
            refine ⟨⟨c, e, _, rfl, rfl, .inr rfl, by simp [hc]; exact hle, ?_, fun z hz => by simp at hz; exact hz⟩, .sliceG _ _ _ _ _ _ hb hle (by simp [hc])⟩
            rw [List.length_map, ht, strOf _ hs]
            exact VRs.nums l
        · cases h
      · cases h
    · rename_i k n
      split at h
      · obtain ⟨a, u, hK, hr, hu⟩ := lscal_sound (ρ := ρ) (E := E) h w
        cases hv
        exact ⟨_, hK, tell hr hu⟩
      · cases h
    · rename_i k n
      split at h
      · cases hv
        obtain ⟨q, h, hq⟩ := cvt_sound (ρ := ρ) (E := E) h
        exact ⟨_, h, tell (by simp [convert, run_und h1, run_und h2, Conv.intToInt]) hq⟩
      · cases h
    · split at h
      · rename_i k
        cases hv with
        | unkI _ n => exact ⟨_, h, tell (v := .int k (k.wrap n)) (by simp [convert, run_und h1, run_und h2, Conv.intToInt]) (.unkI _ _)⟩
      · cases h
    · rename_i z n f
      split at h
      · rename_i e
        split at h
        · rename_i h3
          obtain ⟨hb, h⟩ := fork_true' h
          have hb : AllBytes n f := @of_decide_eq_true _ (Classical.propDecidable _) hb
          refine ⟨_, h, tell ?_ (.str _ (bytesOf_lt hb))⟩
          have key := data_string (P := P) hR hv hb
          have hsl : ∃ a n c, v = .slice a n c := by cases hv <;> exact ⟨_, _, _, rfl⟩
          obtain ⟨a, n', c, rfl⟩ := hsl
          simp only [convert, Sem.run_bind, run_und h1, run_und h2, run_und h3, Result.andThen_ok]
          exact key
        · cases h
      · cases h
    · rename_i b n
      split at h
      · rename_i e
        split at h
        · rename_i h3
          split at h
          · rename_i z m f hs
            obtain ⟨hb, h⟩ := fork_true' h
            obtain ⟨hnm, hb⟩ : n ≤ m ∧ AllBytes n f := @of_decide_eq_true _ (Classical.propDecidable _) hb
            refine ⟨_, h, tell ?_ (.str _ (bytesOf_lt hb))⟩
            have key := gsl_string (P := P) hR hv hs hnm hb
            have hsl : ∃ a n c, v = .slice a n c := by cases hv <;> exact ⟨_, _, _, rfl⟩
            obtain ⟨a, n', c, rfl⟩ := hsl
            simp only [convert, Sem.run_bind, run_und h1, run_und h2, run_und h3, Result.andThen_ok]
            exact key
          · cases h
        · cases h
      · cases h
    · split at h
      · rename_i e
        split at h
        · rename_i h3
          split at h
          · cases h
          · rename_i n hn
            split at h
            · cases h
            · rename_i l hl
              have hh : ∃ s, K (.val (.str s)) = true ∧ ∀ vs, VRs ρ E l vs → vs = (s.map Int.ofNat).map (Value.int .u8) ∧ ∀ x ∈ s, x < 256 := by
                split at h
                · obtain ⟨hb, h⟩ := fork_true' h
                  exact ⟨_, h, fun vs hV => bytel_sound (@of_decide_eq_true _ (Classical.propDecidable _) hb) hV⟩
                · rename_i s hs
                  exact ⟨s, h, fun vs hV => bytes_sound hs hV⟩
              clear h
              obtain ⟨s, h, hsnd⟩ := hh
              · refine ⟨_, h, ?_⟩
                obtain ⟨vs, hrun, hV, hsz⟩ := elems_sound (P := P) hR hl hv
                replace hrun := hrun w rfl
                obtain ⟨e1, h5⟩ := hsnd _ hV
                have key : (Conv.bytesToString v).run P w = .ok (.string ⟨⟨s.map UInt8.ofNat⟩⟩) w := by
                  have hvs : vs = ((s.map Int.ofNat).map (Value.int .u8)).toArray := by rw [← e1]
                  cases hv <;> simp [lenOf] at hn
                  case nilSlice =>
                    subst hn
                    simp [elems] at hl
                    subst hl
                    have h8 := hV.length
                    rw [e1] at h8
                    have hs : s = [] := by simpa using h8
                    subst hs
                    simp [Conv.bytesToString]
                    rfl
                  case str => rename_i hne _ _; simp_all
                  all_goals
                    subst hn
                    simp only [Builtin.firstCells, Nat.mul_one] at hrun
                    rw [hvs] at hrun
                    rw [run_bytesToString w _ _ _ _ hrun, foldl_push]
                    rfl
                refine tell ?_ (.str s h5)
                have hsl : ∃ a n c, v = .slice a n c := by
                  cases hv <;> simp [lenOf] at hn <;> first | exact ⟨_, _, _, rfl⟩ | skip
                  rename_i hne _ _; simp_all
                obtain ⟨a, n', c, rfl⟩ := hsl
                simp only [convert, Sem.run_bind, run_und h1, run_und h2, run_und h3, Result.andThen_ok]
                exact key
        · cases h
      · cases h
  · cases h
end Go.Proofs.Ytkdmlpmjfnjnmaa.Sv
