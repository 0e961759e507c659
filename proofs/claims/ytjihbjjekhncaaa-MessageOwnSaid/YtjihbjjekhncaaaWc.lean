import Derived.Test.YtjihbjjekhncaaaWb
import Derived.Test.YtjihbjjekhncaaaRei
namespace Go.Proofs.Ytjihbjjekhncaaa
open Go Go.RowKit Sv
set_option linter.unusedVariables false
set_option maxRecDepth 100000
set_option maxHeartbeats 0
/-- a number that is written out, as one that isn't. -/
def sI : AV → AV
  | .int k x => .sint k x
  | a => a
theorem vd_sI {ρ : Ctx} {a : AV} {v : Value} (h : VD ρ a v) : VD ρ (sI a) v := by
  cases a <;> first | exact h | (cases h; exact .sint _ _)
theorem vd_unsI {ρ : Ctx} {a : AV} {v : Value} (h : VD ρ (sI a) v) : VD ρ a v := by
  cases a <;> first | exact h | (cases h; exact .int _ _)
theorem vds_sI {ρ : Ctx} : ∀ {l : List AV} {vs : List Value}, VDs ρ l vs → VDs ρ (l.map sI) vs
  | [], _, h => h
  | a :: l, _, h => by
    cases h with
    | cons _ v _ m h t => exact .cons _ _ _ _ (vd_sI h) (vds_sI t)
theorem vds_unsI {ρ : Ctx} : ∀ {l : List AV} {vs : List Value}, VDs ρ (l.map sI) vs → VDs ρ l vs
  | [], _, h => h
  | a :: l, _, h => by
    cases h with
    | cons _ v _ m h t => exact .cons _ _ _ _ (vd_unsI h) (vds_unsI t)
theorem vd_ext {ρ : Ctx} {z n : Nat} {f g : Nat → List AV} {v : Value} (h : ∀ i, i < n → (f i).map sI = (g i).map sI) (hv : VD ρ (.data z n f) v) : VD ρ (.data z n g) v := by
  cases hv with
  | data _ _ _ b off cap c elem fr hd hcap hsz hlen hrow =>
    refine .data _ _ _ b off cap c elem fr hd hcap hsz (fun i hi => ?_) fun i hi => vds_unsI ?_
    · have e := congrArg List.length (h i hi)
      rw [List.length_map, List.length_map] at e
      rw [← e]
      exact hlen i hi
    · rw [← h i hi]
      exact vds_sI (hrow i hi)
  | data0 _ _ a c => exact .data0 _ _ _ _
  | dataN _ _ => exact .dataN _ _
/-- a contract, its rows told otherwise. -/
theorem runs_ext {P : Program} {k z n : Nat} {f g : Nat → List AV} {R : AV → List NewB → Prop} (h : ∀ i, i < n → (f i).map sI = (g i).map sI) (hr : Runs P k [.data z n g] R) : Runs P k [.data z n f] R :=
  ⟨hr.1, fun ρ w vs h1 h2 hv => hr.2 ρ w vs h1 h2 (by
    generalize vs.toList = l at hv ⊢
    cases hv with
    | cons _ v _ m h3 h4 => exact .cons _ _ _ _ (vd_ext h h3) h4)⟩
theorem runs_args {P : Program} {k : Nat} {as' bs : List AV} {R : AV → List NewB → Prop} (h : ∀ ρ vs, VDs ρ as' vs → VDs ρ bs vs) (hr : Runs P k bs R) : Runs P k as' R :=
  ⟨hr.1, fun ρ w vs h1 h2 hv => hr.2 ρ w vs h1 h2 (h _ _ hv)⟩
theorem getD_mem {l : List Int} {i : Nat} (h : i < l.length) : l.getD i 0 ∈ l := by
  rw [List.getD_eq_getElem?_getD, List.getElem?_eq_getElem h, Option.getD_some]
  exact List.getElem_mem h
def isBy (l : List Int) : Prop := ∀ x ∈ l, 0 ≤ x ∧ x < 256
theorem isBy_app {l m : List Int} (h : isBy l) (k : isBy m) : isBy (l ++ m) := fun x hx => by
  rcases List.mem_append.1 hx with e | e
  · exact h x e
  · exact k x e
theorem isBy_cons {x : Int} {l : List Int} (h : 0 ≤ x ∧ x < 256) (k : isBy l) : isBy (x :: l) := fun y hy => by
  rcases List.mem_cons.1 hy with rfl | e
  · exact h
  · exact k y e
theorem isBy_nil : isBy [] := fun x hx => by cases hx
theorem isBy_be8 (x : Int) : isBy (be8 x) := by
  unfold be8
  exact isBy_cons (by omega) (isBy_cons (by omega) (isBy_cons (by omega) (isBy_cons (by omega) (isBy_cons (by omega) (isBy_cons (by omega) (isBy_cons (by omega) (isBy_cons (by omega) isBy_nil)))))))
theorem isBy_be8d (x : Int) : isBy (be8d x) := by
  unfold be8d
  exact isBy_cons (by omega) (isBy_cons (by omega) (isBy_cons (by omega) (isBy_cons (by omega) (isBy_cons (by omega) (isBy_cons (by omega) (isBy_cons (by omega) (isBy_cons (by omega) isBy_nil)))))))
theorem isBy_ev (e : EvI) : isBy e.by := by
  unfold EvI.by
  have h1 : ∀ x : Int, isBy [x % 256] := fun x => isBy_cons (by omega) isBy_nil
  exact isBy_app (isBy_app (isBy_app (isBy_app (isBy_app (isBy_app (isBy_app (isBy_app (isBy_app (isBy_app (isBy_app (isBy_app (isBy_app (h1 _) (isBy_be8 _)) (isBy_be8d _)) (isBy_be8d _)) (isBy_be8d _)) (isBy_be8d _)) (isBy_be8d _)) (isBy_be8d _)) (h1 _)) (isBy_be8 _)) (h1 _)) (isBy_be8 _)) (isBy_be8 _)) (isBy_be8 _)
theorem isBy_hd {m : MsI} (hk : 0 ≤ m.k ∧ m.k < 256) : isBy m.hd := by
  unfold MsI.hd
  exact isBy_app (isBy_app (isBy_app (isBy_app (isBy_app (isBy_app (isBy_cons hk (isBy_cons (by omega) (isBy_cons (by omega) isBy_nil))) (isBy_be8d _)) (isBy_be8d _)) (isBy_be8d _)) (isBy_be8d _)) (isBy_be8d _)) (isBy_be8d _)
theorem isBy_ask {m : MsI} (hk : 0 ≤ m.k ∧ m.k < 256) : isBy m.ask := by
  unfold MsI.ask
  exact isBy_app (isBy_app (isBy_hd hk) (isBy_be8 _)) (isBy_be8 _)
/-- a Sync's bytes, as numbers. -/
def synI (m : MsI) (E : Nat → EvI) (i : Nat) : Int := if i < 51 then m.hd.getD i 0 else (E ((i - 51) / 91)).by.getD ((i - 51) % 91) 0
theorem synI_bd {m : MsI} (hk : 0 ≤ m.k ∧ m.k < 256) (E : Nat → EvI) (i : Nat) : 0 ≤ synI m E i ∧ synI m E i < 256 := by
  unfold synI
  by_cases h : i < 51
  · rw [if_pos h]
    exact isBy_hd hk _ (getD_mem (by rw [hd_len]; exact h))
  · rw [if_neg h]
    exact isBy_ev _ _ (getD_mem (by rw [by_len]; omega))
theorem synY_I (m : MsI) (E : Nat → EvI) (i : Nat) : synY m E i = [cell8 (synI m E i)] := by
  unfold synI
  by_cases h : i < 51
  · rw [if_pos h, syn_lt m E h]
  · rw [if_neg h, syn_ge m E h]
    rfl
def synN (m : MsI) (E : Nat → EvI) : Nat → Nat := natB (synI m E)
theorem by8_synN {m : MsI} (hk : 0 ≤ m.k ∧ m.k < 256) (E : Nat → EvI) (i : Nat) : by8 (synN m E) i = synY m E i := by
  rw [synY_I]
  exact by8_nat (synI_bd hk E i)
def askN (m : MsI) : Nat → Nat := natB fun i => m.ask.getD i 0
theorem by8_askN {m : MsI} (hk : 0 ≤ m.k ∧ m.k < 256) {i : Nat} (h : i < 67) : by8 (askN m) i = [cell8 (m.ask.getD i 0)] :=
  by8_nat (isBy_ask hk _ (getD_mem (by exact h)))
theorem gdf_syn (m : MsI) (E : Nat → EvI) (n : Nat) : GDF (.seq 1 n (synY m E)) := fun i hi => by
  rw [synY_I]
  rfl
theorem bytes_ext {n : Nat} {f g : Nat → List AV} (h : ∀ i, i < n → f i = g i) : bytesOf n f = bytesOf n g := by
  unfold bytesOf
  exact List.map_congr_left fun i hi => by rw [h i (List.mem_range.1 hi)]
theorem all_by8 (n : Nat) (y : Nat → Nat) : AllBytes n (by8 y) := fun i hi => by
  refine ⟨?_, ?_⟩
  · show (0 : Int) ≤ ((y i % 256 : Nat) : Int)
    omega
  · show ((y i % 256 : Nat) : Int) < 256
    omega
theorem all_syn {m : MsI} (hk : 0 ≤ m.k ∧ m.k < 256) (E : Nat → EvI) (n : Nat) : AllBytes n (synY m E) := fun i hi => by
  rw [synY_I]
  exact synI_bd hk E i
end Go.Proofs.Ytjihbjjekhncaaa
namespace Go.Proofs.Ytjihbjjekhncaaa
open Go Go.RowKit Sv
set_option linter.unusedVariables false
set_option maxRecDepth 100000
set_option maxHeartbeats 0
/-- a message's bytes make it again. -/
theorem isSyn_put {m : MsI} {q : Nat} {E : Nat → EvI} (hr : m.rng) (hE : ∀ j, j < q → (E j).rng) (hm : m.may q E) (hk : m.k = 1) : isSyn (51 + 91 * q) (synN m E) q ∧ msS (synN m E) = m ∧ ∀ j, j < q → msE (synN m E) j = E j := by
  have h := syn_of (y := synN m E) hr hE hm hk fun i hi => by8_synN (by omega) E i
  refine ⟨⟨rfl, by rw [h.1]; exact hk, ?_⟩, h⟩
  rw [h.1]
  refine ⟨hm.1, hm.2.1, ?_⟩
  rcases hm.2.2 with e | e
  · exact .inl ⟨e.1, e.2.1, e.2.2.1, e.2.2.2.1, fun j hj => by rw [h.2 j hj]; exact e.2.2.2.2 j hj⟩
  · omega
theorem isAsk_put {m : MsI} {q : Nat} {E : Nat → EvI} (hr : m.rng) (hm : m.may q E) (hk : m.k = 2) : isAsk 67 (askN m) ∧ msK (askN m) = m ∧ q = 0 := by
  have h := ask_of (y := askN m) hr hm hk fun i hi => b8_of (by8_askN (by omega) hi)
  have hq : q = 0 := by
    rcases hm.2.2 with e | e
    · omega
    · exact e.2.2.2.2
  have hk' : (msS (askN m)).k = 2 := (congrArg MsI.k h).trans hk
  refine ⟨⟨rfl, hk', ?_⟩, h, hq⟩
  rw [h]
  refine ⟨hm.1, hm.2.1, .inr ?_⟩
  rcases hm.2.2 with e | e
  · omega
  · exact ⟨e.1, e.2.1, e.2.2.1, e.2.2.2.1, rfl⟩
theorem nfs_byte {l : List AV} (h : isByte l) : nfs l = true := by
  unfold isByte at h
  split at h
  · rfl
  · rfl
  · exact h.elim
theorem glue_all {k n : Nat} {f g : Nat → List AV} (h : AllBytes k f) (h' : AllBytes n g) : AllBytes (k + n) (glue k f g) := fun i hi => by
  unfold glue
  by_cases e : i < k
  · rw [if_pos e]
    exact h i e
  · rw [if_neg e]
    exact h' _ (by omega)
theorem all_le {k n : Nat} {f : Nat → List AV} (h : AllBytes k f) (hn : n ≤ k) : AllBytes n f := fun i hi => h i (by omega)
theorem byte_by8 {l : List AV} (h : isByte l) : l.map sI = by8 (fun _ => natOf l) 0 := by
  unfold isByte at h
  split at h
  · rename_i x
    show [AV.sint .u8 x] = [AV.sint .u8 ((x.toNat % 256 : Nat) : Int)]
    rw [show ((x.toNat % 256 : Nat) : Int) = x by omega]
  · rename_i x
    show [AV.sint .u8 x] = [AV.sint .u8 ((x.toNat % 256 : Nat) : Int)]
    rw [show ((x.toNat % 256 : Nat) : Int) = x by omega]
  · exact h.elim
theorem runs_post {P : Program} {k : Nat} {l : List AV} {R R' : AV → List NewB → Prop} (hr : Runs P k l R) (h : ∀ x G, R x G → R' x G) : Runs P k l R' :=
  ⟨hr.1, fun ρ w vs h1 h2 hv => CallsIn.mono (hr.2 ρ w vs h1 h2 hv) (by
    rintro e w' ⟨x, G, v, E', he, hR, h3⟩
    exact ⟨x, G, v, E', he, h _ _ hR, h3⟩)⟩
def noMsg (x : AV) (G : List NewB) : Prop := x = .tuple [.agg zms, .int .i64 5] ∧ G = []
/-- bytes of which no number fits are none. -/
theorem gbad {n : Nat} {f : Nat → List AV} (hn : n ≤ 5000) (hB : AllBytes n f) (h1 : ∀ q, n ≠ 51 + 91 * q) (h2 : n ≠ 67) : Runs Try.prog 28 [.data 1 n f] noMsg :=
  runs_post (runs_ext (g := by8 fun i => natOf (f i)) (fun i hi => byte_by8 (hB i hi)) (mget n _ hn)) fun x G h => by
    rcases h with ⟨q, h, _⟩ | ⟨h, _⟩ | ⟨h, _⟩ | ⟨h, h', _⟩
    · exact (h1 q h.1).elim
    · exact (h1 0 h.1).elim
    · exact (h2 h.1).elim
    · exact ⟨h, h'⟩
theorem get_bad {o lp : Nat → Bool} {n0 : Nat} {R : AV → List NewB → Prop} {t : T} {b n m : Nat} {f : Nat → List AV} (hd : t.hd = .call 28 [.gsl b n]) (hs : seqAt t.heap b = some (1, m, f)) (hm : n ≤ m) (hn : n ≤ 5000) (hB : AllBytes n f) (h1 : ∀ q, n ≠ 51 + 91 * q) (h2 : n ≠ 67)
    (hk : (t.aft (.tuple [.agg zms, .int .i64 5]) []).ok Try.prog o lp n0 R) : t.ok Try.prog o lp n0 R :=
  ok_call hd (gbad hn hB h1 h2) ⟨⟨rfl, _, _, hs, hm, fun i hi => ⟨rfl, nfs_byte (hB i hi)⟩⟩, trivial⟩ fun x G h => by
    obtain ⟨rfl, rfl⟩ := h
    exact ⟨rfl, fun g hg => (by cases hg), hk⟩
/-- a Sync's own bytes are got. -/
def gotSyn (m : MsI) (q : Nat) (E : Nat → EvI) (x : AV) (G : List NewB) : Prop :=
  (x = .tuple [.agg (m.row (.gsl 0 q)), .int .i64 0] ∧ G = [.seq 14 q fun j => (msE (synN m E) j).row]) ∨ (q = 0 ∧ x = .tuple [.agg (m.row .nilSlice), .int .i64 0] ∧ G = [])
theorem gsyn {m : MsI} {q : Nat} {E : Nat → EvI} (hr : m.rng) (hE : ∀ j, j < q → (E j).rng) (hm : m.may q E) (hk : m.k = 1) (hq : q ≤ 40) : Runs Try.prog 28 [.data 1 (51 + 91 * q) (synY m E)] (gotSyn m q E) :=
  runs_post (runs_ext (g := by8 (synN m E)) (fun i hi => by rw [by8_synN (by omega)]) (mget _ _ (by omega))) fun x G h => by
    have hs := isSyn_put hr hE hm hk
    rcases h with ⟨q', h, rfl, rfl⟩ | ⟨h, rfl, rfl⟩ | ⟨h, _⟩ | ⟨_, _, h, _⟩
    · obtain rfl : q' = q := by
        have := h.1
        omega
      rw [hs.2.1]
      exact .inl ⟨rfl, rfl⟩
    · have e : q = 0 := by
        have := h.1
        omega
      rw [hs.2.1]
      exact .inr ⟨e, rfl, rfl⟩
    · have := h.1
      omega
    · exact (h ⟨q, hs.1⟩).elim
theorem get_syn {o lp : Nat → Bool} {n0 : Nat} {R : AV → List NewB → Prop} {t : T} {m : MsI} {q b k : Nat} {E : Nat → EvI} (hd : t.hd = .call 28 [.gsl b (51 + 91 * q)]) (hs : seqAt t.heap b = some (1, k, synY m E)) (hle : 51 + 91 * q ≤ k) (hr : m.rng) (hE : ∀ j, j < q → (E j).rng) (hm : m.may q E) (hk : m.k = 1) (hq : q ≤ 40)
    (h1 : (t.aft (.tuple [.agg (m.row (.gsl 0 q)), .int .i64 0]) [.seq 14 q fun j => (msE (synN m E) j).row]).ok Try.prog o lp n0 R) (h2 : q = 0 → (t.aft (.tuple [.agg (m.row .nilSlice), .int .i64 0]) []).ok Try.prog o lp n0 R) : t.ok Try.prog o lp n0 R :=
  ok_call hd (gsyn hr hE hm hk hq) ⟨⟨rfl, _, _, hs, hle, fun i hi => ⟨rfl, nf_syn m E i⟩⟩, trivial⟩ fun x G h => by
    rcases h with ⟨rfl, rfl⟩ | ⟨e, rfl, rfl⟩
    · exact ⟨rfl, fun g hg => (by rcases List.mem_singleton.1 hg with rfl; exact fun _ _ => rfl), h1⟩
    · exact ⟨rfl, fun g hg => (by cases hg), h2 e⟩
/-- an Ask's own bytes are got. -/
theorem ask_len (m : MsI) : m.ask.length = 67 := rfl
theorem gask {m : MsI} {q : Nat} {E : Nat → EvI} {f : Nat → List AV} (hr : m.rng) (hm : m.may q E) (hk : m.k = 2) (hf : ∀ i, i < 67 → f i = [cell8 (m.ask.getD i 0)]) : Runs Try.prog 28 [.data 1 67 f] fun x G => x = .tuple [.agg (m.row .nilSlice), .int .i64 0] ∧ G = [] :=
  runs_post (runs_ext (g := by8 (askN m)) (fun i hi => by rw [by8_askN (by omega) hi, hf i hi]) (mget 67 _ (by omega))) fun x G h => by
    have hs := isAsk_put hr hm hk
    rcases h with ⟨q', h, _⟩ | ⟨h, _⟩ | ⟨h, rfl, rfl⟩ | ⟨_, _, _, h⟩
    · have := h.1
      omega
    · have := h.1
      omega
    · rw [hs.2.1]
      exact ⟨rfl, rfl⟩
    · exact (h hs.1).elim
theorem cells_get {l : List Int} {i : Nat} (h : i < l.length) : ((l.map cell8).drop (0 + i * 1)).take 1 = [cell8 (l.getD i 0)] := by
  have hr : i < (l.map cell8).length := by
    rw [List.length_map]
    exact h
  rw [Nat.zero_add, take_drop hr, List.getElem_map, List.getD_eq_getElem?_getD, List.getElem?_eq_getElem h, Option.getD_some]
theorem get_ask {o lp : Nat → Bool} {n0 : Nat} {R : AV → List NewB → Prop} {t : T} {m : MsI} {q b cap : Nat} {ex : Bool} {g : Option Nat} {cs : List AV} {E : Nat → EvI} (hd : t.hd = .call 28 [.slice b 0 67 cap ex]) (hs : cellsAt t.heap b = some (g, cs)) (hcs : cs = m.ask.map cell8) (hc : 67 ≤ cap) (hr : m.rng) (hm : m.may q E) (hk : m.k = 2)
    (h1 : (t.aft (.tuple [.agg (m.row .nilSlice), .int .i64 0]) []).ok Try.prog o lp n0 R) : t.ok Try.prog o lp n0 R := by
  subst hcs
  exact ok_call hd (gask (f := fun i => [cell8 (m.ask.getD i 0)]) hr hm hk fun i _ => rfl) ⟨⟨rfl, hc, _, _, hs, (by rw [List.length_map, ask_len]; omega), fun i hi => ⟨(cells_get (by rw [ask_len]; exact hi)).symm, rfl⟩⟩, trivial⟩ fun x G h => by
    obtain ⟨rfl, rfl⟩ := h
    exact ⟨rfl, fun g hg => (by cases hg), h1⟩
theorem cell_get {l : List AV} {i : Nat} (h : i < l.length) : (l.drop (0 + i * 1)).take 1 = [l[i]] := by
  rw [Nat.zero_add, take_drop h]
theorem get_badC {o lp : Nat → Bool} {n0 : Nat} {R : AV → List NewB → Prop} {t : T} {b n cap : Nat} {ex : Bool} {g : Option Nat} {cs : List AV} (hd : t.hd = .call 28 [.slice b 0 n cap ex]) (hs : cellsAt t.heap b = some (g, cs)) (hc : n ≤ cap) (hl : n ≤ cs.length) (hn : n ≤ 5000) (hB : ByteL cs) (h1 : ∀ q, n ≠ 51 + 91 * q) (h2 : n ≠ 67)
    (hk : (t.aft (.tuple [.agg zms, .int .i64 5]) []).ok Try.prog o lp n0 R) : t.ok Try.prog o lp n0 R := by
  have h : ∀ i, i < n → isByte ((cs.drop (0 + i * 1)).take 1) := fun i hi => by
    rw [cell_get (by omega : i < cs.length)]
    exact hB _ (List.getElem_mem _)
  exact ok_call hd (gbad hn h h1 h2) ⟨⟨rfl, hc, _, _, hs, by omega, fun i hi => ⟨rfl, nfs_byte (h i hi)⟩⟩, trivial⟩ fun x G h => by
    obtain ⟨rfl, rfl⟩ := h
    exact ⟨rfl, fun g hg => (by cases hg), hk⟩
theorem byteL_ask {m : MsI} (hk : 0 ≤ m.k ∧ m.k < 256) : ByteL (m.ask.map cell8) := fun x hx => by
  obtain ⟨z, hz, rfl⟩ := List.mem_map.1 hx
  exact isBy_ask hk z hz
theorem look_cells {H : AH} {j c : Nat} {l : List Nat} {g : Option Nat} {cs : List AV} {s : Option (Nat × Nat × (Nat → List AV))} {r : List (Option Blk × Option (Nat × Nat × (Nat → List AV)))} (h : Sv.look H (j :: l) = (some (.cells c g cs), s) :: r) : cellsAt H j = some (g, cs) := by
  have e : Sv.look H (j :: l) = (H.tr.get j, seqAt H j) :: Sv.look H l := rfl
  rw [e] at h
  unfold cellsAt
  rw [(Prod.mk.inj (List.cons.inj h).1).1]
theorem byteL_cast {l l' : List AV} (h : l = l') (k : ByteL l') : ByteL l := h ▸ k
theorem byteL_app {l l' : List AV} (h : ByteL l) (k : ByteL l') : ByteL (l ++ l') := fun x hx => by
  rcases List.mem_append.1 hx with e | e
  · exact h x e
  · exact k x e
theorem byteL_zero : ByteL [AV.int .u8 0] := fun x hx => by
  rcases List.mem_singleton.1 hx with rfl
  exact ⟨by decide, by decide⟩
end Go.Proofs.Ytjihbjjekhncaaa
namespace Go.Proofs.Ytjihbjjekhncaaa
open Go Go.RowKit Sv
set_option linter.unusedVariables false
set_option maxRecDepth 100000
set_option maxHeartbeats 0
theorem ms_k {y : Nat → Nat} : 0 ≤ (msS y).k ∧ (msS y).k < 256 := by
  show 0 ≤ ((y 0 % 256 : Nat) : Int) ∧ ((y 0 % 256 : Nat) : Int) < 256
  omega
theorem n8_r (y : Nat → Nat) : 0 ≤ n8 y ∧ n8 y ≤ 18446744073709551615 := n8_bd y
theorem msS_rng (y : Nat → Nat) : (msS y).rng := ⟨n8_bd _, n8_bd _, n8_bd _, n8_bd _, n8_bd _, n8_bd _, by show (0 : Int) ≤ 0 ∧ (0 : Int) ≤ _; omega⟩
theorem msK_rng (y : Nat → Nat) : (msK y).rng := ⟨n8_bd _, n8_bd _, n8_bd _, n8_bd _, n8_bd _, n8_bd _, n8_bd _⟩
theorem msE_rng (y : Nat → Nat) (j : Nat) : (msE y j).rng := by
  refine ⟨n8_bd _, n8_bd _, n8_bd _, n8_bd _, n8_bd _, n8_bd _, n8_bd _, ?_, n8_bd _, n8_bd _, n8_bd _⟩
  show 0 ≤ (((_ : Nat) % 256 : Nat) : Int) ∧ (((_ : Nat) % 256 : Nat) : Int) ≤ 255
  omega
theorem rowsS (m : MsI) (E : Nat → EvI) (n : Nat) : RowsOK 1 n (synY m E) := fun i hi => by
  rw [synY_I]
  exact ⟨rfl, rfl⟩
theorem put_syn {o lp : Nat → Bool} {n0 : Nat} {R : AV → List NewB → Prop} {t : T} {n q b : Nat} (y : Nat → Nat) (hd : t.hd = .call 32 [.agg ((msS y).row (.gsl b q))]) (hs : seqAt t.heap b = some (14, q, fun j => (msE y j).row)) (iy : isSyn n y q) (hn : n ≤ 5000)
    (hk : (t.aft (.gsl 0 (51 + 91 * q)) [.seq 1 (51 + 91 * q) (synY (msS y) (msE y))]).ok Try.prog o lp n0 R) : t.ok Try.prog o lp n0 R := by
  have h1 := iy.1
  refine ok_call hd (mput (msS y) q (msE y) (by omega) (msS_rng y) fun j _ => msE_rng y j) (vrow (m := msS y) (d := evs q (msE y)) ⟨rfl, q, _, hs, Nat.le_refl _, fun i hi => ⟨rfl, rfl⟩⟩ ⟨rfl, rfl⟩ ⟨rfl, rfl⟩) fun x G h => ?_
  rcases h with ⟨_, _, h⟩ | ⟨_, _, rfl, rfl⟩ | ⟨h, _⟩
  · exact (h iy.2.2).elim
  · exact ⟨rfl, fun g hg => (by rcases List.mem_singleton.1 hg with rfl; exact gdf_syn _ _ _), hk⟩
  · have := iy.2.1
    omega
theorem put_syn0 {o lp : Nat → Bool} {n0 : Nat} {R : AV → List NewB → Prop} {t : T} {n : Nat} (y : Nat → Nat) (hd : t.hd = .call 32 [.agg ((msS y).row .nilSlice)]) (iy : isSyn n y 0) (hn : n ≤ 5000)
    (hk : (t.aft (.gsl 0 (51 + 91 * 0)) [.seq 1 (51 + 91 * 0) (synY (msS y) (msE y))]).ok Try.prog o lp n0 R) : t.ok Try.prog o lp n0 R := by
  refine ok_call hd (mput (msS y) 0 (msE y) (by omega) (msS_rng y) fun j _ => msE_rng y j) (vrow (m := msS y) (d := evs 0 (msE y)) rfl ⟨rfl, rfl⟩ ⟨rfl, rfl⟩) fun x G h => ?_
  rcases h with ⟨_, _, h⟩ | ⟨_, _, rfl, rfl⟩ | ⟨h, _⟩
  · exact (h iy.2.2).elim
  · exact ⟨rfl, fun g hg => (by rcases List.mem_singleton.1 hg with rfl; exact gdf_syn _ _ _), hk⟩
  · have := iy.2.1
    omega
theorem put_ask {o lp : Nat → Bool} {n0 : Nat} {R : AV → List NewB → Prop} {t : T} {n : Nat} (y : Nat → Nat) (hd : t.hd = .call 32 [.agg ((msK y).row .nilSlice)]) (iy : isAsk n y)
    (hk : (t.aft (.slice 0 0 67 67 false) [.cells (some 1) ((msK y).ask.map cell8)]).ok Try.prog o lp n0 R) : t.ok Try.prog o lp n0 R := by
  refine ok_call hd (mput (msK y) 0 (msE y) (by omega) (msK_rng y) fun j _ => msE_rng y j) (vrow (m := msK y) (d := evs 0 (msE y)) rfl ⟨rfl, rfl⟩ ⟨rfl, rfl⟩) fun x G h => ?_
  have e : (msK y).k = 2 := iy.2.1
  rcases h with ⟨_, _, h⟩ | ⟨h, _⟩ | ⟨_, _, rfl, rfl⟩
  · exact (h iy.2.2).elim
  · omega
  · exact ⟨rfl, fun g hg => (by rcases List.mem_singleton.1 hg with rfl; exact rfl), hk⟩
theorem syn_back {n q : Nat} {y : Nat → Nat} (iy : isSyn n y q) : bytesOf (51 + 91 * q) (synY (msS y) (msE y)) = bytesOf n (by8 y) := by
  obtain rfl := iy.1
  exact bytes_ext (syn_to rfl)
theorem all_glue0 {n : Nat} {f : Nat → List AV} (h : AllBytes n f) : AllBytes (n + 1) (glue n f fun i => ([AV.int .u8 0].drop (i * 1)).take 1) := glue_all h fun i hi => by
  obtain rfl : i = 0 := by omega
  show (0 : Int) ≤ 0 ∧ (0 : Int) < 256
  omega
theorem ask_back {n : Nat} {y : Nat → Nat} (iy : isAsk n y) : ((msK y).ask.map cell8).map (fun x => natOf [x]) = bytesOf n (by8 y) := by
  obtain rfl := iy.1
  rw [ask_by, List.map_map, List.map_map]
  exact List.map_congr_left fun i _ => rfl
theorem law (m : MsI) (q : Nat) (E : Nat → EvI) (hq : q ≤ 9223372036854775807) (hr : m.rng) (hE : ∀ j, j < q → (E j).rng) (n : Nat) (y : Nat → Nat) (hn : n ≤ 9223372036854775807) : Runs Try.prog 9 [.agg (m.row (evs q E)), .data 1 n (by8 y)] fun x G => x = .bool true ∧ G = [] := by
  refine runs_treeF plain mixed (fun g => Nat.beq g 30 || Nat.beq g 32 || Nat.beq g 28 || Nat.beq g 34 || Nat.beq g 27) (fun _ => true) 80 ?_
  refine ok_sk (.both (.stop []) (.both (.stop []) (.stop []))) (S := .fork (decide ((40 : Int) < (↑q : Int))) (.stop (Hd.call (27 : Nat) []) [] ([])) (.fork (decide ((4000 : Int) < (↑n : Int))) (.stop (Hd.call (27 : Nat) []) [] ([])) (.stop (Hd.call (32 : Nat) [AV.agg [AV.sint IntKind.u8 m.k, AV.sint IntKind.i64 m.f, AV.sint IntKind.i64 m.t, AV.sint IntKind.u64 m.v0, AV.sint IntKind.u64 m.v1, AV.sint IntKind.u64 m.v2, AV.sint IntKind.u64 m.v3, AV.sint IntKind.u64 m.v4, AV.sint IntKind.u64 m.v5, AV.data (14 : Nat) q fun (i : Nat) => (E i).row, AV.sint IntKind.u64 m.n, AV.sint IntKind.i64 m.a]]) [] ([])))) (by kernel_rfl) ?_
  refine hold_forkD (fun h0 => ?_) (fun h0 => ?_)
  ·
   refine hold_stop (fun hd hb => ?_)
   refine ok_call0 hd works rfl ?_
   rintro x G ⟨rfl, rfl⟩
   refine ⟨rfl, fun g hg => (by cases hg), ?_⟩
   refine ok_sk (.stop []) (S := .stop (Hd.leaf (AV.bool Bool.true)) [] ([])) (by kernel_rfl) ?_
   refine hold_stop (fun hd hb => ?_)
   exact ok_leaf0 hd rfl ⟨rfl, rfl⟩
  refine hold_forkD (fun h1 => ?_) (fun h1 => ?_)
  ·
   refine hold_stop (fun hd hb => ?_)
   refine ok_call0 hd works rfl ?_
   rintro x G ⟨rfl, rfl⟩
   refine ⟨rfl, fun g hg => (by cases hg), ?_⟩
   refine ok_sk (.stop []) (S := .stop (Hd.leaf (AV.bool Bool.true)) [] ([])) (by kernel_rfl) ?_
   refine hold_stop (fun hd hb => ?_)
   exact ok_leaf0 hd rfl ⟨rfl, rfl⟩
  refine hold_stop (fun hd hb => ?_)
  first
    | (refine ok_call0 hd (mput m q E (by omega) hr hE) rfl ?_
       rintro x G (⟨rfl, rfl, mp⟩ | ⟨mk, mp, rfl, rfl⟩ | ⟨mk, mp, rfl, rfl⟩) <;> first | refine ⟨rfl, fun g hg => (by rcases List.mem_singleton.1 hg with rfl; exact gdf_syn _ _ _), ?_⟩ | refine ⟨rfl, fun g hg => (by rcases List.mem_singleton.1 hg with rfl; exact rfl), ?_⟩ | refine ⟨rfl, fun g hg => (by cases hg), ?_⟩)
    | refine put_syn y hd (look_seq hb) iy (by omega) ?_
    | refine put_syn0 y hd iy (by omega) ?_
    | refine put_ask y hd iy ?_
  ·
   refine ok_sk (.stop []) (S := .stop (Hd.call (30 : Nat) [AV.agg [AV.sint IntKind.u8 m.k, AV.sint IntKind.i64 m.f, AV.sint IntKind.i64 m.t, AV.sint IntKind.u64 m.v0, AV.sint IntKind.u64 m.v1, AV.sint IntKind.u64 m.v2, AV.sint IntKind.u64 m.v3, AV.sint IntKind.u64 m.v4, AV.sint IntKind.u64 m.v5, AV.data (14 : Nat) q fun (i : Nat) => (E i).row, AV.sint IntKind.u64 m.n, AV.sint IntKind.i64 m.a]]) [] ([])) (by kernel_rfl) ?_
   refine hold_stop (fun hd hb => ?_)
   refine ok_call0 hd (mmay m q E (by omega)) rfl ?_
   rintro x G ⟨rfl, ⟨rfl, my⟩ | ⟨rfl, my⟩⟩ <;> refine ⟨rfl, fun g hg => (by cases hg), ?_⟩
   ·
    refine ok_sk (.stop []) (S := .stop (Hd.leaf (AV.bool Bool.false)) [] ([])) (by kernel_rfl) ?_
    refine hold_stop (fun hd hb => ?_)
    exact absurd my mp
   refine ok_sk (.stop []) (S := .stop (Hd.call (28 : Nat) [AV.data (1 : Nat) n (by8 y)]) [] ([])) (by kernel_rfl) ?_
   refine hold_stop (fun hd hb => ?_)
   first
     | (refine ok_call0 hd (mget n y (by omega)) rfl ?_
        rintro x G (⟨q2, iy, rfl, rfl⟩ | ⟨iy, rfl, rfl⟩ | ⟨iy, rfl, rfl⟩ | ⟨rfl, rfl, no1, no2⟩) <;> first | refine ⟨rfl, fun g hg => (by rcases List.mem_singleton.1 hg with rfl; exact fun _ _ => rfl), ?_⟩ | refine ⟨rfl, fun g hg => (by cases hg), ?_⟩)
     | refine get_syn hd (look_seq hb) (by omega) hr hE mp mk (by omega) ?_ (fun q0 => ?_)
     | refine get_bad hd (look_seq hb) (by omega) (by omega) (by exact all_syn (by omega) _ _) (by omega) (by omega) ?_
     | refine get_bad hd (look_seq hb) (by omega) (by omega) (by exact all_glue0 (all_syn (by omega) _ _)) (by omega) (by omega) ?_
     | refine get_badC (n := 66) hd (look_cells hb) (by omega) (Nat.le_of_ble_eq_true (by kernel_rfl)) (by omega) (by exact byteL_cast (l' := m.ask.map cell8) (by kernel_rfl) (byteL_ask (by omega))) (by omega) (by omega) ?_
     | refine get_badC (n := 68) hd (look_cells hb) (by omega) (Nat.le_of_ble_eq_true (by kernel_rfl)) (by omega) (by exact byteL_cast (l' := m.ask.map cell8 ++ [.int .u8 0]) (by kernel_rfl) (byteL_app (byteL_ask (by omega)) byteL_zero)) (by omega) (by omega) ?_
     | refine get_ask hd (look_cells hb) (by kernel_rfl) (by omega) hr mp mk ?_
   ·
    refine ok_sk (.l (.stop [1])) (S := .left (@decide (AllBytes n (by8 y)) (Classical.propDecidable _)) (.stop (Hd.call (32 : Nat) [AV.agg [AV.sint IntKind.u8 (msS y).k, AV.sint IntKind.i64 (msS y).f, AV.sint IntKind.i64 (msS y).t, AV.sint IntKind.u64 (msS y).v0, AV.sint IntKind.u64 (msS y).v1, AV.sint IntKind.u64 (msS y).v2, AV.sint IntKind.u64 (msS y).v3, AV.sint IntKind.u64 (msS y).v4, AV.sint IntKind.u64 (msS y).v5, AV.gsl (1 : Nat) q2, AV.sint IntKind.u64 (msS y).n, AV.sint IntKind.i64 (msS y).a]]) [1] ([(Option.some (Blk.seq (1 : Nat) (14 : Nat) q2 fun (j : Nat) => (evAt ((91 : Nat) * j) fun (i : Nat) => y ((51 : Nat) + i)).row), Option.some ((14 : Nat), q2, fun (j : Nat) => (evAt ((91 : Nat) * j) fun (i : Nat) => y ((51 : Nat) + i)).row))]))) (by kernel_rfl) ?_
    refine hold_leftD0 (Classical.byContradiction fun h5 => by exact h5 (all_by8 _ _)) ?_
    refine hold_stop (fun hd hb => ?_)
    first
      | (refine ok_call0 hd (mput m q E (by omega) hr hE) rfl ?_
         rintro x G (⟨rfl, rfl, mp⟩ | ⟨mk, mp, rfl, rfl⟩ | ⟨mk, mp, rfl, rfl⟩) <;> first | refine ⟨rfl, fun g hg => (by rcases List.mem_singleton.1 hg with rfl; exact gdf_syn _ _ _), ?_⟩ | refine ⟨rfl, fun g hg => (by rcases List.mem_singleton.1 hg with rfl; exact rfl), ?_⟩ | refine ⟨rfl, fun g hg => (by cases hg), ?_⟩)
      | refine put_syn y hd (look_seq hb) iy (by omega) ?_
      | refine put_syn0 y hd iy (by omega) ?_
      | refine put_ask y hd iy ?_
    refine ok_sk (.l (.l (.l (.l (.l (.stop [])))))) (S := .left (@decide (AllBytes n (by8 y)) (Classical.propDecidable _)) (.left (decide (bytesOf n (by8 y) = bytesOf n (by8 y))) (.left (@decide ((1 : Nat) = (1 : Nat) ∧ n = n ∧ by8 y = by8 y) (Classical.propDecidable _)) (.left (@decide ((51 : Nat) + (91 : Nat) * q2 ≤ (51 : Nat) + (91 : Nat) * q2 ∧ AllBytes ((51 : Nat) + (91 : Nat) * q2) (synY { k := (↑(y (0 : Nat) % (256 : Nat)) : Int), f := (↑(y (1 : Nat) % (256 : Nat)) : Int), t := (↑(y (2 : Nat) % (256 : Nat)) : Int), v0 := n8 fun (i : Nat) => y ((3 : Nat) + ((0 : Nat) + i)), v1 := n8 fun (i : Nat) => y ((3 : Nat) + ((8 : Nat) + i)), v2 := n8 fun (i : Nat) => y ((3 : Nat) + ((16 : Nat) + i)), v3 := n8 fun (i : Nat) => y ((3 : Nat) + ((24 : Nat) + i)), v4 := n8 fun (i : Nat) => y ((3 : Nat) + ((32 : Nat) + i)), v5 := n8 fun (i : Nat) => y ((3 : Nat) + ((40 : Nat) + i)), n := (0 : Int), a := (0 : Int) } fun (j : Nat) => evAt ((91 : Nat) * j) fun (i : Nat) => y ((51 : Nat) + i))) (Classical.propDecidable _)) (.left (decide (bytesOf ((51 : Nat) + (91 : Nat) * q2) (synY { k := (↑(y (0 : Nat) % (256 : Nat)) : Int), f := (↑(y (1 : Nat) % (256 : Nat)) : Int), t := (↑(y (2 : Nat) % (256 : Nat)) : Int), v0 := n8 fun (i : Nat) => y ((3 : Nat) + ((0 : Nat) + i)), v1 := n8 fun (i : Nat) => y ((3 : Nat) + ((8 : Nat) + i)), v2 := n8 fun (i : Nat) => y ((3 : Nat) + ((16 : Nat) + i)), v3 := n8 fun (i : Nat) => y ((3 : Nat) + ((24 : Nat) + i)), v4 := n8 fun (i : Nat) => y ((3 : Nat) + ((32 : Nat) + i)), v5 := n8 fun (i : Nat) => y ((3 : Nat) + ((40 : Nat) + i)), n := (0 : Int), a := (0 : Int) } fun (j : Nat) => evAt ((91 : Nat) * j) fun (i : Nat) => y ((51 : Nat) + i)) = bytesOf n (by8 y))) (.stop (Hd.call (27 : Nat) []) [] ([]))))))) (by kernel_rfl) ?_
    refine hold_leftD0 (Classical.byContradiction fun h6 => by exact h6 (all_by8 _ _)) ?_
    refine hold_leftD0 (Classical.byContradiction fun h6 => by exact h6 rfl) ?_
    refine hold_leftD0 (Classical.byContradiction fun h6 => by exact h6 ⟨rfl, rfl, rfl⟩) ?_
    refine hold_leftD0 (Classical.byContradiction fun h6 => by exact h6 ⟨Nat.le_refl _, all_syn ms_k _ _⟩) ?_
    refine hold_leftD0 (Classical.byContradiction fun h6 => by exact h6 (syn_back iy)) ?_
    refine hold_stop (fun hd hb => ?_)
    refine ok_call0 hd works rfl ?_
    rintro x G ⟨rfl, rfl⟩
    refine ⟨rfl, fun g hg => (by cases hg), ?_⟩
    refine ok_sk (.stop []) (S := .stop (Hd.leaf (AV.bool Bool.true)) [] ([])) (by kernel_rfl) ?_
    refine hold_stop (fun hd hb => ?_)
    exact ok_leaf0 hd rfl ⟨rfl, rfl⟩
   ·
    refine ok_sk (.l (.stop [])) (S := .left (@decide (AllBytes n (by8 y)) (Classical.propDecidable _)) (.stop (Hd.call (32 : Nat) [AV.agg [AV.sint IntKind.u8 (msS y).k, AV.sint IntKind.i64 (msS y).f, AV.sint IntKind.i64 (msS y).t, AV.sint IntKind.u64 (msS y).v0, AV.sint IntKind.u64 (msS y).v1, AV.sint IntKind.u64 (msS y).v2, AV.sint IntKind.u64 (msS y).v3, AV.sint IntKind.u64 (msS y).v4, AV.sint IntKind.u64 (msS y).v5, AV.nilSlice, AV.sint IntKind.u64 (msS y).n, AV.sint IntKind.i64 (msS y).a]]) [] ([]))) (by kernel_rfl) ?_
    refine hold_leftD0 (Classical.byContradiction fun h5 => by exact h5 (all_by8 _ _)) ?_
    refine hold_stop (fun hd hb => ?_)
    first
      | (refine ok_call0 hd (mput m q E (by omega) hr hE) rfl ?_
         rintro x G (⟨rfl, rfl, mp⟩ | ⟨mk, mp, rfl, rfl⟩ | ⟨mk, mp, rfl, rfl⟩) <;> first | refine ⟨rfl, fun g hg => (by rcases List.mem_singleton.1 hg with rfl; exact gdf_syn _ _ _), ?_⟩ | refine ⟨rfl, fun g hg => (by rcases List.mem_singleton.1 hg with rfl; exact rfl), ?_⟩ | refine ⟨rfl, fun g hg => (by cases hg), ?_⟩)
      | refine put_syn y hd (look_seq hb) iy (by omega) ?_
      | refine put_syn0 y hd iy (by omega) ?_
      | refine put_ask y hd iy ?_
    refine ok_sk (.l (.l (.l (.l (.l (.stop [])))))) (S := .left (@decide (AllBytes n (by8 y)) (Classical.propDecidable _)) (.left (decide (bytesOf n (by8 y) = bytesOf n (by8 y))) (.left (@decide ((1 : Nat) = (1 : Nat) ∧ n = n ∧ by8 y = by8 y) (Classical.propDecidable _)) (.left (@decide ((51 : Nat) ≤ (51 : Nat) ∧ AllBytes (51 : Nat) (synY { k := (↑(y (0 : Nat) % (256 : Nat)) : Int), f := (↑(y (1 : Nat) % (256 : Nat)) : Int), t := (↑(y (2 : Nat) % (256 : Nat)) : Int), v0 := n8 fun (i : Nat) => y ((3 : Nat) + ((0 : Nat) + i)), v1 := n8 fun (i : Nat) => y ((3 : Nat) + ((8 : Nat) + i)), v2 := n8 fun (i : Nat) => y ((3 : Nat) + ((16 : Nat) + i)), v3 := n8 fun (i : Nat) => y ((3 : Nat) + ((24 : Nat) + i)), v4 := n8 fun (i : Nat) => y ((3 : Nat) + ((32 : Nat) + i)), v5 := n8 fun (i : Nat) => y ((3 : Nat) + ((40 : Nat) + i)), n := (0 : Int), a := (0 : Int) } fun (j : Nat) => evAt ((91 : Nat) * j) fun (i : Nat) => y ((51 : Nat) + i))) (Classical.propDecidable _)) (.left (decide (bytesOf (51 : Nat) (synY { k := (↑(y (0 : Nat) % (256 : Nat)) : Int), f := (↑(y (1 : Nat) % (256 : Nat)) : Int), t := (↑(y (2 : Nat) % (256 : Nat)) : Int), v0 := n8 fun (i : Nat) => y ((3 : Nat) + ((0 : Nat) + i)), v1 := n8 fun (i : Nat) => y ((3 : Nat) + ((8 : Nat) + i)), v2 := n8 fun (i : Nat) => y ((3 : Nat) + ((16 : Nat) + i)), v3 := n8 fun (i : Nat) => y ((3 : Nat) + ((24 : Nat) + i)), v4 := n8 fun (i : Nat) => y ((3 : Nat) + ((32 : Nat) + i)), v5 := n8 fun (i : Nat) => y ((3 : Nat) + ((40 : Nat) + i)), n := (0 : Int), a := (0 : Int) } fun (j : Nat) => evAt ((91 : Nat) * j) fun (i : Nat) => y ((51 : Nat) + i)) = bytesOf n (by8 y))) (.stop (Hd.call (27 : Nat) []) [] ([]))))))) (by kernel_rfl) ?_
    refine hold_leftD0 (Classical.byContradiction fun h6 => by exact h6 (all_by8 _ _)) ?_
    refine hold_leftD0 (Classical.byContradiction fun h6 => by exact h6 rfl) ?_
    refine hold_leftD0 (Classical.byContradiction fun h6 => by exact h6 ⟨rfl, rfl, rfl⟩) ?_
    refine hold_leftD0 (Classical.byContradiction fun h6 => by exact h6 ⟨Nat.le_refl _, all_syn ms_k _ _⟩) ?_
    refine hold_leftD0 (Classical.byContradiction fun h6 => by exact h6 (syn_back iy)) ?_
    refine hold_stop (fun hd hb => ?_)
    refine ok_call0 hd works rfl ?_
    rintro x G ⟨rfl, rfl⟩
    refine ⟨rfl, fun g hg => (by cases hg), ?_⟩
    refine ok_sk (.stop []) (S := .stop (Hd.leaf (AV.bool Bool.true)) [] ([])) (by kernel_rfl) ?_
    refine hold_stop (fun hd hb => ?_)
    exact ok_leaf0 hd rfl ⟨rfl, rfl⟩
   ·
    refine ok_sk (.l (.stop [])) (S := .left (@decide (AllBytes n (by8 y)) (Classical.propDecidable _)) (.stop (Hd.call (32 : Nat) [AV.agg [AV.sint IntKind.u8 (msK y).k, AV.sint IntKind.i64 (msK y).f, AV.sint IntKind.i64 (msK y).t, AV.sint IntKind.u64 (msK y).v0, AV.sint IntKind.u64 (msK y).v1, AV.sint IntKind.u64 (msK y).v2, AV.sint IntKind.u64 (msK y).v3, AV.sint IntKind.u64 (msK y).v4, AV.sint IntKind.u64 (msK y).v5, AV.nilSlice, AV.sint IntKind.u64 (msK y).n, AV.sint IntKind.i64 (msK y).a]]) [] ([]))) (by kernel_rfl) ?_
    refine hold_leftD0 (Classical.byContradiction fun h5 => by exact h5 (all_by8 _ _)) ?_
    refine hold_stop (fun hd hb => ?_)
    first
      | (refine ok_call0 hd (mput m q E (by omega) hr hE) rfl ?_
         rintro x G (⟨rfl, rfl, mp⟩ | ⟨mk, mp, rfl, rfl⟩ | ⟨mk, mp, rfl, rfl⟩) <;> first | refine ⟨rfl, fun g hg => (by rcases List.mem_singleton.1 hg with rfl; exact gdf_syn _ _ _), ?_⟩ | refine ⟨rfl, fun g hg => (by rcases List.mem_singleton.1 hg with rfl; exact rfl), ?_⟩ | refine ⟨rfl, fun g hg => (by cases hg), ?_⟩)
      | refine put_syn y hd (look_seq hb) iy (by omega) ?_
      | refine put_syn0 y hd iy (by omega) ?_
      | refine put_ask y hd iy ?_
    refine ok_sk (.l (.l (.l (.l (.l (.stop [])))))) (S := .left (@decide (AllBytes n (by8 y)) (Classical.propDecidable _)) (.left (decide (bytesOf n (by8 y) = bytesOf n (by8 y))) (.left (@decide ((1 : Nat) = (1 : Nat) ∧ n = n ∧ by8 y = by8 y) (Classical.propDecidable _)) (.left (@decide (ByteL [AV.sint IntKind.u8 (msK y).k, AV.sint IntKind.u8 ((msK y).f % (256 : Int)), AV.sint IntKind.u8 ((msK y).t % (256 : Int)), AV.sint IntKind.u8 ((msK y).v0 / (72057594037927936 : Int) % (256 : Int)), AV.sint IntKind.u8 ((msK y).v0 / (281474976710656 : Int) % (256 : Int)), AV.sint IntKind.u8 ((msK y).v0 / (1099511627776 : Int) % (256 : Int)), AV.sint IntKind.u8 ((msK y).v0 / (4294967296 : Int) % (256 : Int)), AV.sint IntKind.u8 ((msK y).v0 / (16777216 : Int) % (256 : Int)), AV.sint IntKind.u8 ((msK y).v0 / (65536 : Int) % (256 : Int)), AV.sint IntKind.u8 ((msK y).v0 / (256 : Int) % (256 : Int)), AV.sint IntKind.u8 ((msK y).v0 / (1 : Int) % (256 : Int)), AV.sint IntKind.u8 ((msK y).v1 / (72057594037927936 : Int) % (256 : Int)), AV.sint IntKind.u8 ((msK y).v1 / (281474976710656 : Int) % (256 : Int)), AV.sint IntKind.u8 ((msK y).v1 / (1099511627776 : Int) % (256 : Int)), AV.sint IntKind.u8 ((msK y).v1 / (4294967296 : Int) % (256 : Int)), AV.sint IntKind.u8 ((msK y).v1 / (16777216 : Int) % (256 : Int)), AV.sint IntKind.u8 ((msK y).v1 / (65536 : Int) % (256 : Int)), AV.sint IntKind.u8 ((msK y).v1 / (256 : Int) % (256 : Int)), AV.sint IntKind.u8 ((msK y).v1 / (1 : Int) % (256 : Int)), AV.sint IntKind.u8 ((msK y).v2 / (72057594037927936 : Int) % (256 : Int)), AV.sint IntKind.u8 ((msK y).v2 / (281474976710656 : Int) % (256 : Int)), AV.sint IntKind.u8 ((msK y).v2 / (1099511627776 : Int) % (256 : Int)), AV.sint IntKind.u8 ((msK y).v2 / (4294967296 : Int) % (256 : Int)), AV.sint IntKind.u8 ((msK y).v2 / (16777216 : Int) % (256 : Int)), AV.sint IntKind.u8 ((msK y).v2 / (65536 : Int) % (256 : Int)), AV.sint IntKind.u8 ((msK y).v2 / (256 : Int) % (256 : Int)), AV.sint IntKind.u8 ((msK y).v2 / (1 : Int) % (256 : Int)), AV.sint IntKind.u8 ((msK y).v3 / (72057594037927936 : Int) % (256 : Int)), AV.sint IntKind.u8 ((msK y).v3 / (281474976710656 : Int) % (256 : Int)), AV.sint IntKind.u8 ((msK y).v3 / (1099511627776 : Int) % (256 : Int)), AV.sint IntKind.u8 ((msK y).v3 / (4294967296 : Int) % (256 : Int)), AV.sint IntKind.u8 ((msK y).v3 / (16777216 : Int) % (256 : Int)), AV.sint IntKind.u8 ((msK y).v3 / (65536 : Int) % (256 : Int)), AV.sint IntKind.u8 ((msK y).v3 / (256 : Int) % (256 : Int)), AV.sint IntKind.u8 ((msK y).v3 / (1 : Int) % (256 : Int)), AV.sint IntKind.u8 ((msK y).v4 / (72057594037927936 : Int) % (256 : Int)), AV.sint IntKind.u8 ((msK y).v4 / (281474976710656 : Int) % (256 : Int)), AV.sint IntKind.u8 ((msK y).v4 / (1099511627776 : Int) % (256 : Int)), AV.sint IntKind.u8 ((msK y).v4 / (4294967296 : Int) % (256 : Int)), AV.sint IntKind.u8 ((msK y).v4 / (16777216 : Int) % (256 : Int)), AV.sint IntKind.u8 ((msK y).v4 / (65536 : Int) % (256 : Int)), AV.sint IntKind.u8 ((msK y).v4 / (256 : Int) % (256 : Int)), AV.sint IntKind.u8 ((msK y).v4 / (1 : Int) % (256 : Int)), AV.sint IntKind.u8 ((msK y).v5 / (72057594037927936 : Int) % (256 : Int)), AV.sint IntKind.u8 ((msK y).v5 / (281474976710656 : Int) % (256 : Int)), AV.sint IntKind.u8 ((msK y).v5 / (1099511627776 : Int) % (256 : Int)), AV.sint IntKind.u8 ((msK y).v5 / (4294967296 : Int) % (256 : Int)), AV.sint IntKind.u8 ((msK y).v5 / (16777216 : Int) % (256 : Int)), AV.sint IntKind.u8 ((msK y).v5 / (65536 : Int) % (256 : Int)), AV.sint IntKind.u8 ((msK y).v5 / (256 : Int) % (256 : Int)), AV.sint IntKind.u8 ((msK y).v5 / (1 : Int) % (256 : Int)), AV.sint IntKind.u8 ((msK y).n / (72057594037927936 : Int) % (256 : Int)), AV.sint IntKind.u8 ((msK y).n / (281474976710656 : Int) % (256 : Int)), AV.sint IntKind.u8 ((msK y).n / (1099511627776 : Int) % (256 : Int)), AV.sint IntKind.u8 ((msK y).n / (4294967296 : Int) % (256 : Int)), AV.sint IntKind.u8 ((msK y).n / (16777216 : Int) % (256 : Int)), AV.sint IntKind.u8 ((msK y).n / (65536 : Int) % (256 : Int)), AV.sint IntKind.u8 ((msK y).n / (256 : Int) % (256 : Int)), AV.sint IntKind.u8 ((msK y).n % (256 : Int)), AV.sint IntKind.u8 ((msK y).a / (72057594037927936 : Int) % (256 : Int)), AV.sint IntKind.u8 ((msK y).a / (281474976710656 : Int) % (256 : Int)), AV.sint IntKind.u8 ((msK y).a / (1099511627776 : Int) % (256 : Int)), AV.sint IntKind.u8 ((msK y).a / (4294967296 : Int) % (256 : Int)), AV.sint IntKind.u8 ((msK y).a / (16777216 : Int) % (256 : Int)), AV.sint IntKind.u8 ((msK y).a / (65536 : Int) % (256 : Int)), AV.sint IntKind.u8 ((msK y).a / (256 : Int) % (256 : Int)), AV.sint IntKind.u8 ((msK y).a % (256 : Int))]) (Classical.propDecidable _)) (.left (decide (List.map (fun (x : AV) => natOf [x]) [AV.sint IntKind.u8 (msK y).k, AV.sint IntKind.u8 ((msK y).f % (256 : Int)), AV.sint IntKind.u8 ((msK y).t % (256 : Int)), AV.sint IntKind.u8 ((msK y).v0 / (72057594037927936 : Int) % (256 : Int)), AV.sint IntKind.u8 ((msK y).v0 / (281474976710656 : Int) % (256 : Int)), AV.sint IntKind.u8 ((msK y).v0 / (1099511627776 : Int) % (256 : Int)), AV.sint IntKind.u8 ((msK y).v0 / (4294967296 : Int) % (256 : Int)), AV.sint IntKind.u8 ((msK y).v0 / (16777216 : Int) % (256 : Int)), AV.sint IntKind.u8 ((msK y).v0 / (65536 : Int) % (256 : Int)), AV.sint IntKind.u8 ((msK y).v0 / (256 : Int) % (256 : Int)), AV.sint IntKind.u8 ((msK y).v0 / (1 : Int) % (256 : Int)), AV.sint IntKind.u8 ((msK y).v1 / (72057594037927936 : Int) % (256 : Int)), AV.sint IntKind.u8 ((msK y).v1 / (281474976710656 : Int) % (256 : Int)), AV.sint IntKind.u8 ((msK y).v1 / (1099511627776 : Int) % (256 : Int)), AV.sint IntKind.u8 ((msK y).v1 / (4294967296 : Int) % (256 : Int)), AV.sint IntKind.u8 ((msK y).v1 / (16777216 : Int) % (256 : Int)), AV.sint IntKind.u8 ((msK y).v1 / (65536 : Int) % (256 : Int)), AV.sint IntKind.u8 ((msK y).v1 / (256 : Int) % (256 : Int)), AV.sint IntKind.u8 ((msK y).v1 / (1 : Int) % (256 : Int)), AV.sint IntKind.u8 ((msK y).v2 / (72057594037927936 : Int) % (256 : Int)), AV.sint IntKind.u8 ((msK y).v2 / (281474976710656 : Int) % (256 : Int)), AV.sint IntKind.u8 ((msK y).v2 / (1099511627776 : Int) % (256 : Int)), AV.sint IntKind.u8 ((msK y).v2 / (4294967296 : Int) % (256 : Int)), AV.sint IntKind.u8 ((msK y).v2 / (16777216 : Int) % (256 : Int)), AV.sint IntKind.u8 ((msK y).v2 / (65536 : Int) % (256 : Int)), AV.sint IntKind.u8 ((msK y).v2 / (256 : Int) % (256 : Int)), AV.sint IntKind.u8 ((msK y).v2 / (1 : Int) % (256 : Int)), AV.sint IntKind.u8 ((msK y).v3 / (72057594037927936 : Int) % (256 : Int)), AV.sint IntKind.u8 ((msK y).v3 / (281474976710656 : Int) % (256 : Int)), AV.sint IntKind.u8 ((msK y).v3 / (1099511627776 : Int) % (256 : Int)), AV.sint IntKind.u8 ((msK y).v3 / (4294967296 : Int) % (256 : Int)), AV.sint IntKind.u8 ((msK y).v3 / (16777216 : Int) % (256 : Int)), AV.sint IntKind.u8 ((msK y).v3 / (65536 : Int) % (256 : Int)), AV.sint IntKind.u8 ((msK y).v3 / (256 : Int) % (256 : Int)), AV.sint IntKind.u8 ((msK y).v3 / (1 : Int) % (256 : Int)), AV.sint IntKind.u8 ((msK y).v4 / (72057594037927936 : Int) % (256 : Int)), AV.sint IntKind.u8 ((msK y).v4 / (281474976710656 : Int) % (256 : Int)), AV.sint IntKind.u8 ((msK y).v4 / (1099511627776 : Int) % (256 : Int)), AV.sint IntKind.u8 ((msK y).v4 / (4294967296 : Int) % (256 : Int)), AV.sint IntKind.u8 ((msK y).v4 / (16777216 : Int) % (256 : Int)), AV.sint IntKind.u8 ((msK y).v4 / (65536 : Int) % (256 : Int)), AV.sint IntKind.u8 ((msK y).v4 / (256 : Int) % (256 : Int)), AV.sint IntKind.u8 ((msK y).v4 / (1 : Int) % (256 : Int)), AV.sint IntKind.u8 ((msK y).v5 / (72057594037927936 : Int) % (256 : Int)), AV.sint IntKind.u8 ((msK y).v5 / (281474976710656 : Int) % (256 : Int)), AV.sint IntKind.u8 ((msK y).v5 / (1099511627776 : Int) % (256 : Int)), AV.sint IntKind.u8 ((msK y).v5 / (4294967296 : Int) % (256 : Int)), AV.sint IntKind.u8 ((msK y).v5 / (16777216 : Int) % (256 : Int)), AV.sint IntKind.u8 ((msK y).v5 / (65536 : Int) % (256 : Int)), AV.sint IntKind.u8 ((msK y).v5 / (256 : Int) % (256 : Int)), AV.sint IntKind.u8 ((msK y).v5 / (1 : Int) % (256 : Int)), AV.sint IntKind.u8 ((msK y).n / (72057594037927936 : Int) % (256 : Int)), AV.sint IntKind.u8 ((msK y).n / (281474976710656 : Int) % (256 : Int)), AV.sint IntKind.u8 ((msK y).n / (1099511627776 : Int) % (256 : Int)), AV.sint IntKind.u8 ((msK y).n / (4294967296 : Int) % (256 : Int)), AV.sint IntKind.u8 ((msK y).n / (16777216 : Int) % (256 : Int)), AV.sint IntKind.u8 ((msK y).n / (65536 : Int) % (256 : Int)), AV.sint IntKind.u8 ((msK y).n / (256 : Int) % (256 : Int)), AV.sint IntKind.u8 ((msK y).n % (256 : Int)), AV.sint IntKind.u8 ((msK y).a / (72057594037927936 : Int) % (256 : Int)), AV.sint IntKind.u8 ((msK y).a / (281474976710656 : Int) % (256 : Int)), AV.sint IntKind.u8 ((msK y).a / (1099511627776 : Int) % (256 : Int)), AV.sint IntKind.u8 ((msK y).a / (4294967296 : Int) % (256 : Int)), AV.sint IntKind.u8 ((msK y).a / (16777216 : Int) % (256 : Int)), AV.sint IntKind.u8 ((msK y).a / (65536 : Int) % (256 : Int)), AV.sint IntKind.u8 ((msK y).a / (256 : Int) % (256 : Int)), AV.sint IntKind.u8 ((msK y).a % (256 : Int))] = bytesOf n (by8 y))) (.stop (Hd.call (27 : Nat) []) [] ([]))))))) (by kernel_rfl) ?_
    refine hold_leftD0 (Classical.byContradiction fun h6 => by exact h6 (all_by8 _ _)) ?_
    refine hold_leftD0 (Classical.byContradiction fun h6 => by exact h6 rfl) ?_
    refine hold_leftD0 (Classical.byContradiction fun h6 => by exact h6 ⟨rfl, rfl, rfl⟩) ?_
    refine hold_leftD0 (Classical.byContradiction fun h6 => by exact h6 (byteL_cast (l' := (msK y).ask.map cell8) (by kernel_rfl) (byteL_ask ms_k))) ?_
    refine hold_leftD0 (Classical.byContradiction fun h6 => by exact h6 (Eq.trans (by kernel_rfl) (ask_back iy))) ?_
    refine hold_stop (fun hd hb => ?_)
    refine ok_call0 hd works rfl ?_
    rintro x G ⟨rfl, rfl⟩
    refine ⟨rfl, fun g hg => (by cases hg), ?_⟩
    refine ok_sk (.stop []) (S := .stop (Hd.leaf (AV.bool Bool.true)) [] ([])) (by kernel_rfl) ?_
    refine hold_stop (fun hd hb => ?_)
    exact ok_leaf0 hd rfl ⟨rfl, rfl⟩
   refine ok_sk (.stop []) (S := .stop (Hd.call (27 : Nat) []) [] ([])) (by kernel_rfl) ?_
   refine hold_stop (fun hd hb => ?_)
   refine ok_call0 hd works rfl ?_
   rintro x G ⟨rfl, rfl⟩
   refine ⟨rfl, fun g hg => (by cases hg), ?_⟩
   refine ok_sk (.stop []) (S := .stop (Hd.leaf (AV.bool Bool.true)) [] ([])) (by kernel_rfl) ?_
   refine hold_stop (fun hd hb => ?_)
   exact ok_leaf0 hd rfl ⟨rfl, rfl⟩
  ·
   refine ok_sk (.stop []) (S := .stop (Hd.call (30 : Nat) [AV.agg [AV.sint IntKind.u8 m.k, AV.sint IntKind.i64 m.f, AV.sint IntKind.i64 m.t, AV.sint IntKind.u64 m.v0, AV.sint IntKind.u64 m.v1, AV.sint IntKind.u64 m.v2, AV.sint IntKind.u64 m.v3, AV.sint IntKind.u64 m.v4, AV.sint IntKind.u64 m.v5, AV.data (14 : Nat) q fun (i : Nat) => (E i).row, AV.sint IntKind.u64 m.n, AV.sint IntKind.i64 m.a]]) [] ([])) (by kernel_rfl) ?_
   refine hold_stop (fun hd hb => ?_)
   refine ok_call0 hd (mmay m q E (by omega)) rfl ?_
   rintro x G ⟨rfl, ⟨rfl, my⟩ | ⟨rfl, my⟩⟩ <;> refine ⟨rfl, fun g hg => (by cases hg), ?_⟩
   ·
    refine ok_sk (.l (.l (.stop [1]))) (S := .left (decide ((0 : Int) < (↑((51 : Nat) + (91 : Nat) * q) : Int))) (.left (decide ((0 : Int) < (↑((51 : Nat) + (91 : Nat) * q) : Int))) (.stop (Hd.call (28 : Nat) [AV.gsl (1 : Nat) ((51 : Nat) + (91 : Nat) * q)]) [1] ([(Option.some (Blk.seq (1 : Nat) (1 : Nat) ((51 : Nat) + (91 : Nat) * q) (synY m E)), Option.some ((1 : Nat), (51 : Nat) + (91 : Nat) * q, synY m E))])))) (by kernel_rfl) ?_
    refine hold_leftD0 (Classical.byContradiction fun h4 => by omega) ?_
    refine hold_leftD0 (Classical.byContradiction fun h4 => by omega) ?_
    refine hold_stop (fun hd hb => ?_)
    first
      | (refine ok_call0 hd (mget n y (by omega)) rfl ?_
         rintro x G (⟨q2, iy, rfl, rfl⟩ | ⟨iy, rfl, rfl⟩ | ⟨iy, rfl, rfl⟩ | ⟨rfl, rfl, no1, no2⟩) <;> first | refine ⟨rfl, fun g hg => (by rcases List.mem_singleton.1 hg with rfl; exact fun _ _ => rfl), ?_⟩ | refine ⟨rfl, fun g hg => (by cases hg), ?_⟩)
      | refine get_syn hd (look_seq hb) (by omega) hr hE mp mk (by omega) ?_ (fun q0 => ?_)
      | refine get_bad hd (look_seq hb) (by omega) (by omega) (by exact all_syn (by omega) _ _) (by omega) (by omega) ?_
      | refine get_bad hd (look_seq hb) (by omega) (by omega) (by exact all_glue0 (all_syn (by omega) _ _)) (by omega) (by omega) ?_
      | refine get_badC (n := 66) hd (look_cells hb) (by omega) (Nat.le_of_ble_eq_true (by kernel_rfl)) (by omega) (by exact byteL_cast (l' := m.ask.map cell8) (by kernel_rfl) (byteL_ask (by omega))) (by omega) (by omega) ?_
      | refine get_badC (n := 68) hd (look_cells hb) (by omega) (Nat.le_of_ble_eq_true (by kernel_rfl)) (by omega) (by exact byteL_cast (l' := m.ask.map cell8 ++ [.int .u8 0]) (by kernel_rfl) (byteL_app (byteL_ask (by omega)) byteL_zero)) (by omega) (by omega) ?_
      | refine get_ask hd (look_cells hb) (by kernel_rfl) (by omega) hr mp mk ?_
    ·
     refine ok_sk (.l (.l (.stop [1]))) (S := .left (decide ((-9223372036854775808 : Int) ≤ (↑((51 : Nat) + (91 : Nat) * q) : Int) - (1 : Int) ∧ (↑((51 : Nat) + (91 : Nat) * q) : Int) - (1 : Int) ≤ (9223372036854775807 : Int))) (.left (decide ((0 : Int) = (0 : Int) ∧ (0 : Int) ≤ (↑((51 : Nat) + (91 : Nat) * q) : Int) - (1 : Int) ∧ (↑((51 : Nat) + (91 : Nat) * q) : Int) - (1 : Int) ≤ (↑((51 : Nat) + (91 : Nat) * q) : Int))) (.stop (Hd.call (28 : Nat) [AV.gsl (1 : Nat) ((↑((51 : Nat) + (91 : Nat) * q) : Int) - (1 : Int)).toNat]) [1] ([(Option.some (Blk.seq (1 : Nat) (1 : Nat) ((51 : Nat) + (91 : Nat) * q) (synY m E)), Option.some ((1 : Nat), (51 : Nat) + (91 : Nat) * q, synY m E))])))) (by kernel_rfl) ?_
     refine hold_leftD0 (Classical.byContradiction fun h5 => by omega) ?_
     refine hold_leftD0 (Classical.byContradiction fun h5 => by omega) ?_
     refine hold_stop (fun hd hb => ?_)
     first
       | (refine ok_call0 hd (mget n y (by omega)) rfl ?_
          rintro x G (⟨q2, iy, rfl, rfl⟩ | ⟨iy, rfl, rfl⟩ | ⟨iy, rfl, rfl⟩ | ⟨rfl, rfl, no1, no2⟩) <;> first | refine ⟨rfl, fun g hg => (by rcases List.mem_singleton.1 hg with rfl; exact fun _ _ => rfl), ?_⟩ | refine ⟨rfl, fun g hg => (by cases hg), ?_⟩)
       | refine get_syn hd (look_seq hb) (by omega) hr hE mp mk (by omega) ?_ (fun q0 => ?_)
       | refine get_bad hd (look_seq hb) (by omega) (by omega) (by exact all_syn (by omega) _ _) (by omega) (by omega) ?_
       | refine get_bad hd (look_seq hb) (by omega) (by omega) (by exact all_glue0 (all_syn (by omega) _ _)) (by omega) (by omega) ?_
       | refine get_badC (n := 66) hd (look_cells hb) (by omega) (Nat.le_of_ble_eq_true (by kernel_rfl)) (by omega) (by exact byteL_cast (l' := m.ask.map cell8) (by kernel_rfl) (byteL_ask (by omega))) (by omega) (by omega) ?_
       | refine get_badC (n := 68) hd (look_cells hb) (by omega) (Nat.le_of_ble_eq_true (by kernel_rfl)) (by omega) (by exact byteL_cast (l' := m.ask.map cell8 ++ [.int .u8 0]) (by kernel_rfl) (byteL_app (byteL_ask (by omega)) byteL_zero)) (by omega) (by omega) ?_
       | refine get_ask hd (look_cells hb) (by kernel_rfl) (by omega) hr mp mk ?_
     refine ok_sk (.l (.l (.l (.l (.stop [8]))))) (S := .left (decide ((51 : Nat) + (91 : Nat) * q ≤ (51 : Nat) + (91 : Nat) * q)) (.left (@decide ((51 : Nat) + (91 : Nat) * q < (65536 : Nat) ∧ RowsOK (1 : Nat) ((51 : Nat) + (91 : Nat) * q) (synY m E)) (Classical.propDecidable _)) (.left (@decide ((1 : Nat) < (65536 : Nat) ∧ RowsOK (1 : Nat) (1 : Nat) fun (i : Nat) => List.take (1 : Nat) (List.drop (i * (1 : Nat)) [AV.int IntKind.u8 (0 : Int)])) (Classical.propDecidable _)) (.left (decide ((51 : Nat) + (91 : Nat) * q ≤ (51 : Nat) + (91 : Nat) * q ∧ (51 : Nat) + (91 : Nat) * q < (65536 : Nat))) (.stop (Hd.call (28 : Nat) [AV.gsl (8 : Nat) ((51 : Nat) + (91 : Nat) * q + (1 : Nat))]) [8] ([(Option.some (Blk.seq (8 : Nat) (1 : Nat) ((51 : Nat) + (91 : Nat) * q + (1 : Nat)) (glue ((51 : Nat) + (91 : Nat) * q) (synY m E) fun (i : Nat) => List.take (1 : Nat) (List.drop (i * (1 : Nat)) [AV.int IntKind.u8 (0 : Int)]))), Option.some ((1 : Nat), (51 : Nat) + (91 : Nat) * q + (1 : Nat), glue ((51 : Nat) + (91 : Nat) * q) (synY m E) fun (i : Nat) => List.take (1 : Nat) (List.drop (i * (1 : Nat)) [AV.int IntKind.u8 (0 : Int)])))])))))) (by kernel_rfl) ?_
     refine hold_leftD0 (Classical.byContradiction fun h6 => by omega) ?_
     refine hold_leftD0 (Classical.byContradiction fun h6 => by exact h6 ⟨by omega, rowsS _ _ _⟩) ?_
     refine hold_leftD0 (Classical.byContradiction fun h6 => by exact h6 ⟨by omega, fun i hi => by obtain rfl : i = 0 := (by omega); exact ⟨rfl, rfl⟩⟩) ?_
     refine hold_leftD0 (Classical.byContradiction fun h6 => by omega) ?_
     refine hold_stop (fun hd hb => ?_)
     first
       | (refine ok_call0 hd (mget n y (by omega)) rfl ?_
          rintro x G (⟨q2, iy, rfl, rfl⟩ | ⟨iy, rfl, rfl⟩ | ⟨iy, rfl, rfl⟩ | ⟨rfl, rfl, no1, no2⟩) <;> first | refine ⟨rfl, fun g hg => (by rcases List.mem_singleton.1 hg with rfl; exact fun _ _ => rfl), ?_⟩ | refine ⟨rfl, fun g hg => (by cases hg), ?_⟩)
       | refine get_syn hd (look_seq hb) (by omega) hr hE mp mk (by omega) ?_ (fun q0 => ?_)
       | refine get_bad hd (look_seq hb) (by omega) (by omega) (by exact all_syn (by omega) _ _) (by omega) (by omega) ?_
       | refine get_bad hd (look_seq hb) (by omega) (by omega) (by exact all_glue0 (all_syn (by omega) _ _)) (by omega) (by omega) ?_
       | refine get_badC (n := 66) hd (look_cells hb) (by omega) (Nat.le_of_ble_eq_true (by kernel_rfl)) (by omega) (by exact byteL_cast (l' := m.ask.map cell8) (by kernel_rfl) (byteL_ask (by omega))) (by omega) (by omega) ?_
       | refine get_badC (n := 68) hd (look_cells hb) (by omega) (Nat.le_of_ble_eq_true (by kernel_rfl)) (by omega) (by exact byteL_cast (l' := m.ask.map cell8 ++ [.int .u8 0]) (by kernel_rfl) (byteL_app (byteL_ask (by omega)) byteL_zero)) (by omega) (by omega) ?_
       | refine get_ask hd (look_cells hb) (by kernel_rfl) (by omega) hr mp mk ?_
     refine ok_sk (.stop [2]) (S := .stop (Hd.call (34 : Nat) [AV.agg [AV.sint IntKind.u8 m.k, AV.sint IntKind.i64 m.f, AV.sint IntKind.i64 m.t, AV.sint IntKind.u64 m.v0, AV.sint IntKind.u64 m.v1, AV.sint IntKind.u64 m.v2, AV.sint IntKind.u64 m.v3, AV.sint IntKind.u64 m.v4, AV.sint IntKind.u64 m.v5, AV.gsl (2 : Nat) q, AV.sint IntKind.u64 m.n, AV.sint IntKind.i64 m.a], AV.agg [AV.sint IntKind.u8 m.k, AV.sint IntKind.i64 m.f, AV.sint IntKind.i64 m.t, AV.sint IntKind.u64 m.v0, AV.sint IntKind.u64 m.v1, AV.sint IntKind.u64 m.v2, AV.sint IntKind.u64 m.v3, AV.sint IntKind.u64 m.v4, AV.sint IntKind.u64 m.v5, AV.data (14 : Nat) q fun (i : Nat) => (E i).row, AV.sint IntKind.u64 m.n, AV.sint IntKind.i64 m.a]]) [2] ([(Option.some (Blk.seq (2 : Nat) (14 : Nat) q fun (j : Nat) => (evAt ((91 : Nat) * j) fun (i : Nat) => synN m E ((51 : Nat) + i)).row), Option.some ((14 : Nat), q, fun (j : Nat) => (evAt ((91 : Nat) * j) fun (i : Nat) => synN m E ((51 : Nat) + i)).row))])) (by kernel_rfl) ?_
     refine hold_stop (fun hd hb => ?_)
     first
       | (refine ok_call hd (msame m m q q (msE (synN m E)) E (by omega) (by omega)) ⟨(vrow (m := m) (d := evs q (msE (synN m E))) (by exact ⟨rfl, q, _, look_seq hb, Nat.le_refl _, fun i hi => ⟨rfl, rfl⟩⟩) (by exact ⟨rfl, rfl⟩) (by exact ⟨rfl, rfl⟩)).1, (views_self _ (by exact rfl))⟩ ?_
          rintro x G ⟨rfl, ⟨rfl, sm⟩ | ⟨rfl, sm⟩⟩ <;> refine ⟨rfl, fun g hg => (by cases hg), ?_⟩)
       | (refine ok_call hd (msame m m 0 q (msE (synN m E)) E (by omega) (by omega)) ⟨(vrow (m := m) (d := evs 0 (msE (synN m E))) (by exact rfl) (by exact ⟨rfl, rfl⟩) (by exact ⟨rfl, rfl⟩)).1, (views_self _ (by exact rfl))⟩ ?_
          rintro x G ⟨rfl, ⟨rfl, sm⟩ | ⟨rfl, sm⟩⟩ <;> refine ⟨rfl, fun g hg => (by cases hg), ?_⟩)
     ·
      refine ok_sk (.stop []) (S := .stop (Hd.call (28 : Nat) [AV.data (1 : Nat) n (by8 y)]) [] ([])) (by kernel_rfl) ?_
      refine hold_stop (fun hd hb => ?_)
      first
        | (refine ok_call0 hd (mget n y (by omega)) rfl ?_
           rintro x G (⟨q2, iy, rfl, rfl⟩ | ⟨iy, rfl, rfl⟩ | ⟨iy, rfl, rfl⟩ | ⟨rfl, rfl, no1, no2⟩) <;> first | refine ⟨rfl, fun g hg => (by rcases List.mem_singleton.1 hg with rfl; exact fun _ _ => rfl), ?_⟩ | refine ⟨rfl, fun g hg => (by cases hg), ?_⟩)
        | refine get_syn hd (look_seq hb) (by omega) hr hE mp mk (by omega) ?_ (fun q0 => ?_)
        | refine get_bad hd (look_seq hb) (by omega) (by omega) (by exact all_syn (by omega) _ _) (by omega) (by omega) ?_
        | refine get_bad hd (look_seq hb) (by omega) (by omega) (by exact all_glue0 (all_syn (by omega) _ _)) (by omega) (by omega) ?_
        | refine get_badC (n := 66) hd (look_cells hb) (by omega) (Nat.le_of_ble_eq_true (by kernel_rfl)) (by omega) (by exact byteL_cast (l' := m.ask.map cell8) (by kernel_rfl) (byteL_ask (by omega))) (by omega) (by omega) ?_
        | refine get_badC (n := 68) hd (look_cells hb) (by omega) (Nat.le_of_ble_eq_true (by kernel_rfl)) (by omega) (by exact byteL_cast (l' := m.ask.map cell8 ++ [.int .u8 0]) (by kernel_rfl) (byteL_app (byteL_ask (by omega)) byteL_zero)) (by omega) (by omega) ?_
        | refine get_ask hd (look_cells hb) (by kernel_rfl) (by omega) hr mp mk ?_
      ·
       refine ok_sk (.l (.stop [10])) (S := .left (@decide (AllBytes n (by8 y)) (Classical.propDecidable _)) (.stop (Hd.call (32 : Nat) [AV.agg [AV.sint IntKind.u8 (msS y).k, AV.sint IntKind.i64 (msS y).f, AV.sint IntKind.i64 (msS y).t, AV.sint IntKind.u64 (msS y).v0, AV.sint IntKind.u64 (msS y).v1, AV.sint IntKind.u64 (msS y).v2, AV.sint IntKind.u64 (msS y).v3, AV.sint IntKind.u64 (msS y).v4, AV.sint IntKind.u64 (msS y).v5, AV.gsl (10 : Nat) q2, AV.sint IntKind.u64 (msS y).n, AV.sint IntKind.i64 (msS y).a]]) [10] ([(Option.some (Blk.seq (10 : Nat) (14 : Nat) q2 fun (j : Nat) => (evAt ((91 : Nat) * j) fun (i : Nat) => y ((51 : Nat) + i)).row), Option.some ((14 : Nat), q2, fun (j : Nat) => (evAt ((91 : Nat) * j) fun (i : Nat) => y ((51 : Nat) + i)).row))]))) (by kernel_rfl) ?_
       refine hold_leftD0 (Classical.byContradiction fun h9 => by exact h9 (all_by8 _ _)) ?_
       refine hold_stop (fun hd hb => ?_)
       first
         | (refine ok_call0 hd (mput m q E (by omega) hr hE) rfl ?_
            rintro x G (⟨rfl, rfl, mp⟩ | ⟨mk, mp, rfl, rfl⟩ | ⟨mk, mp, rfl, rfl⟩) <;> first | refine ⟨rfl, fun g hg => (by rcases List.mem_singleton.1 hg with rfl; exact gdf_syn _ _ _), ?_⟩ | refine ⟨rfl, fun g hg => (by rcases List.mem_singleton.1 hg with rfl; exact rfl), ?_⟩ | refine ⟨rfl, fun g hg => (by cases hg), ?_⟩)
         | refine put_syn y hd (look_seq hb) iy (by omega) ?_
         | refine put_syn0 y hd iy (by omega) ?_
         | refine put_ask y hd iy ?_
       refine ok_sk (.l (.l (.l (.l (.l (.stop [])))))) (S := .left (@decide (AllBytes n (by8 y)) (Classical.propDecidable _)) (.left (decide (bytesOf n (by8 y) = bytesOf n (by8 y))) (.left (@decide ((1 : Nat) = (1 : Nat) ∧ n = n ∧ by8 y = by8 y) (Classical.propDecidable _)) (.left (@decide ((51 : Nat) + (91 : Nat) * q2 ≤ (51 : Nat) + (91 : Nat) * q2 ∧ AllBytes ((51 : Nat) + (91 : Nat) * q2) (synY { k := (↑(y (0 : Nat) % (256 : Nat)) : Int), f := (↑(y (1 : Nat) % (256 : Nat)) : Int), t := (↑(y (2 : Nat) % (256 : Nat)) : Int), v0 := n8 fun (i : Nat) => y ((3 : Nat) + ((0 : Nat) + i)), v1 := n8 fun (i : Nat) => y ((3 : Nat) + ((8 : Nat) + i)), v2 := n8 fun (i : Nat) => y ((3 : Nat) + ((16 : Nat) + i)), v3 := n8 fun (i : Nat) => y ((3 : Nat) + ((24 : Nat) + i)), v4 := n8 fun (i : Nat) => y ((3 : Nat) + ((32 : Nat) + i)), v5 := n8 fun (i : Nat) => y ((3 : Nat) + ((40 : Nat) + i)), n := (0 : Int), a := (0 : Int) } fun (j : Nat) => evAt ((91 : Nat) * j) fun (i : Nat) => y ((51 : Nat) + i))) (Classical.propDecidable _)) (.left (decide (bytesOf ((51 : Nat) + (91 : Nat) * q2) (synY { k := (↑(y (0 : Nat) % (256 : Nat)) : Int), f := (↑(y (1 : Nat) % (256 : Nat)) : Int), t := (↑(y (2 : Nat) % (256 : Nat)) : Int), v0 := n8 fun (i : Nat) => y ((3 : Nat) + ((0 : Nat) + i)), v1 := n8 fun (i : Nat) => y ((3 : Nat) + ((8 : Nat) + i)), v2 := n8 fun (i : Nat) => y ((3 : Nat) + ((16 : Nat) + i)), v3 := n8 fun (i : Nat) => y ((3 : Nat) + ((24 : Nat) + i)), v4 := n8 fun (i : Nat) => y ((3 : Nat) + ((32 : Nat) + i)), v5 := n8 fun (i : Nat) => y ((3 : Nat) + ((40 : Nat) + i)), n := (0 : Int), a := (0 : Int) } fun (j : Nat) => evAt ((91 : Nat) * j) fun (i : Nat) => y ((51 : Nat) + i)) = bytesOf n (by8 y))) (.stop (Hd.call (27 : Nat) []) [] ([]))))))) (by kernel_rfl) ?_
       refine hold_leftD0 (Classical.byContradiction fun h10 => by exact h10 (all_by8 _ _)) ?_
       refine hold_leftD0 (Classical.byContradiction fun h10 => by exact h10 rfl) ?_
       refine hold_leftD0 (Classical.byContradiction fun h10 => by exact h10 ⟨rfl, rfl, rfl⟩) ?_
       refine hold_leftD0 (Classical.byContradiction fun h10 => by exact h10 ⟨Nat.le_refl _, all_syn ms_k _ _⟩) ?_
       refine hold_leftD0 (Classical.byContradiction fun h10 => by exact h10 (syn_back iy)) ?_
       refine hold_stop (fun hd hb => ?_)
       refine ok_call0 hd works rfl ?_
       rintro x G ⟨rfl, rfl⟩
       refine ⟨rfl, fun g hg => (by cases hg), ?_⟩
       refine ok_sk (.stop []) (S := .stop (Hd.leaf (AV.bool Bool.true)) [] ([])) (by kernel_rfl) ?_
       refine hold_stop (fun hd hb => ?_)
       exact ok_leaf0 hd rfl ⟨rfl, rfl⟩
      ·
       refine ok_sk (.l (.stop [])) (S := .left (@decide (AllBytes n (by8 y)) (Classical.propDecidable _)) (.stop (Hd.call (32 : Nat) [AV.agg [AV.sint IntKind.u8 (msS y).k, AV.sint IntKind.i64 (msS y).f, AV.sint IntKind.i64 (msS y).t, AV.sint IntKind.u64 (msS y).v0, AV.sint IntKind.u64 (msS y).v1, AV.sint IntKind.u64 (msS y).v2, AV.sint IntKind.u64 (msS y).v3, AV.sint IntKind.u64 (msS y).v4, AV.sint IntKind.u64 (msS y).v5, AV.nilSlice, AV.sint IntKind.u64 (msS y).n, AV.sint IntKind.i64 (msS y).a]]) [] ([]))) (by kernel_rfl) ?_
       refine hold_leftD0 (Classical.byContradiction fun h9 => by exact h9 (all_by8 _ _)) ?_
       refine hold_stop (fun hd hb => ?_)
       first
         | (refine ok_call0 hd (mput m q E (by omega) hr hE) rfl ?_
            rintro x G (⟨rfl, rfl, mp⟩ | ⟨mk, mp, rfl, rfl⟩ | ⟨mk, mp, rfl, rfl⟩) <;> first | refine ⟨rfl, fun g hg => (by rcases List.mem_singleton.1 hg with rfl; exact gdf_syn _ _ _), ?_⟩ | refine ⟨rfl, fun g hg => (by rcases List.mem_singleton.1 hg with rfl; exact rfl), ?_⟩ | refine ⟨rfl, fun g hg => (by cases hg), ?_⟩)
         | refine put_syn y hd (look_seq hb) iy (by omega) ?_
         | refine put_syn0 y hd iy (by omega) ?_
         | refine put_ask y hd iy ?_
       refine ok_sk (.l (.l (.l (.l (.l (.stop [])))))) (S := .left (@decide (AllBytes n (by8 y)) (Classical.propDecidable _)) (.left (decide (bytesOf n (by8 y) = bytesOf n (by8 y))) (.left (@decide ((1 : Nat) = (1 : Nat) ∧ n = n ∧ by8 y = by8 y) (Classical.propDecidable _)) (.left (@decide ((51 : Nat) ≤ (51 : Nat) ∧ AllBytes (51 : Nat) (synY { k := (↑(y (0 : Nat) % (256 : Nat)) : Int), f := (↑(y (1 : Nat) % (256 : Nat)) : Int), t := (↑(y (2 : Nat) % (256 : Nat)) : Int), v0 := n8 fun (i : Nat) => y ((3 : Nat) + ((0 : Nat) + i)), v1 := n8 fun (i : Nat) => y ((3 : Nat) + ((8 : Nat) + i)), v2 := n8 fun (i : Nat) => y ((3 : Nat) + ((16 : Nat) + i)), v3 := n8 fun (i : Nat) => y ((3 : Nat) + ((24 : Nat) + i)), v4 := n8 fun (i : Nat) => y ((3 : Nat) + ((32 : Nat) + i)), v5 := n8 fun (i : Nat) => y ((3 : Nat) + ((40 : Nat) + i)), n := (0 : Int), a := (0 : Int) } fun (j : Nat) => evAt ((91 : Nat) * j) fun (i : Nat) => y ((51 : Nat) + i))) (Classical.propDecidable _)) (.left (decide (bytesOf (51 : Nat) (synY { k := (↑(y (0 : Nat) % (256 : Nat)) : Int), f := (↑(y (1 : Nat) % (256 : Nat)) : Int), t := (↑(y (2 : Nat) % (256 : Nat)) : Int), v0 := n8 fun (i : Nat) => y ((3 : Nat) + ((0 : Nat) + i)), v1 := n8 fun (i : Nat) => y ((3 : Nat) + ((8 : Nat) + i)), v2 := n8 fun (i : Nat) => y ((3 : Nat) + ((16 : Nat) + i)), v3 := n8 fun (i : Nat) => y ((3 : Nat) + ((24 : Nat) + i)), v4 := n8 fun (i : Nat) => y ((3 : Nat) + ((32 : Nat) + i)), v5 := n8 fun (i : Nat) => y ((3 : Nat) + ((40 : Nat) + i)), n := (0 : Int), a := (0 : Int) } fun (j : Nat) => evAt ((91 : Nat) * j) fun (i : Nat) => y ((51 : Nat) + i)) = bytesOf n (by8 y))) (.stop (Hd.call (27 : Nat) []) [] ([]))))))) (by kernel_rfl) ?_
       refine hold_leftD0 (Classical.byContradiction fun h10 => by exact h10 (all_by8 _ _)) ?_
       refine hold_leftD0 (Classical.byContradiction fun h10 => by exact h10 rfl) ?_
       refine hold_leftD0 (Classical.byContradiction fun h10 => by exact h10 ⟨rfl, rfl, rfl⟩) ?_
       refine hold_leftD0 (Classical.byContradiction fun h10 => by exact h10 ⟨Nat.le_refl _, all_syn ms_k _ _⟩) ?_
       refine hold_leftD0 (Classical.byContradiction fun h10 => by exact h10 (syn_back iy)) ?_
       refine hold_stop (fun hd hb => ?_)
       refine ok_call0 hd works rfl ?_
       rintro x G ⟨rfl, rfl⟩
       refine ⟨rfl, fun g hg => (by cases hg), ?_⟩
       refine ok_sk (.stop []) (S := .stop (Hd.leaf (AV.bool Bool.true)) [] ([])) (by kernel_rfl) ?_
       refine hold_stop (fun hd hb => ?_)
       exact ok_leaf0 hd rfl ⟨rfl, rfl⟩
      ·
       refine ok_sk (.l (.stop [])) (S := .left (@decide (AllBytes n (by8 y)) (Classical.propDecidable _)) (.stop (Hd.call (32 : Nat) [AV.agg [AV.sint IntKind.u8 (msK y).k, AV.sint IntKind.i64 (msK y).f, AV.sint IntKind.i64 (msK y).t, AV.sint IntKind.u64 (msK y).v0, AV.sint IntKind.u64 (msK y).v1, AV.sint IntKind.u64 (msK y).v2, AV.sint IntKind.u64 (msK y).v3, AV.sint IntKind.u64 (msK y).v4, AV.sint IntKind.u64 (msK y).v5, AV.nilSlice, AV.sint IntKind.u64 (msK y).n, AV.sint IntKind.i64 (msK y).a]]) [] ([]))) (by kernel_rfl) ?_
       refine hold_leftD0 (Classical.byContradiction fun h9 => by exact h9 (all_by8 _ _)) ?_
       refine hold_stop (fun hd hb => ?_)
       first
         | (refine ok_call0 hd (mput m q E (by omega) hr hE) rfl ?_
            rintro x G (⟨rfl, rfl, mp⟩ | ⟨mk, mp, rfl, rfl⟩ | ⟨mk, mp, rfl, rfl⟩) <;> first | refine ⟨rfl, fun g hg => (by rcases List.mem_singleton.1 hg with rfl; exact gdf_syn _ _ _), ?_⟩ | refine ⟨rfl, fun g hg => (by rcases List.mem_singleton.1 hg with rfl; exact rfl), ?_⟩ | refine ⟨rfl, fun g hg => (by cases hg), ?_⟩)
         | refine put_syn y hd (look_seq hb) iy (by omega) ?_
         | refine put_syn0 y hd iy (by omega) ?_
         | refine put_ask y hd iy ?_
       refine ok_sk (.l (.l (.l (.l (.l (.stop [])))))) (S := .left (@decide (AllBytes n (by8 y)) (Classical.propDecidable _)) (.left (decide (bytesOf n (by8 y) = bytesOf n (by8 y))) (.left (@decide ((1 : Nat) = (1 : Nat) ∧ n = n ∧ by8 y = by8 y) (Classical.propDecidable _)) (.left (@decide (ByteL [AV.sint IntKind.u8 (msK y).k, AV.sint IntKind.u8 ((msK y).f % (256 : Int)), AV.sint IntKind.u8 ((msK y).t % (256 : Int)), AV.sint IntKind.u8 ((msK y).v0 / (72057594037927936 : Int) % (256 : Int)), AV.sint IntKind.u8 ((msK y).v0 / (281474976710656 : Int) % (256 : Int)), AV.sint IntKind.u8 ((msK y).v0 / (1099511627776 : Int) % (256 : Int)), AV.sint IntKind.u8 ((msK y).v0 / (4294967296 : Int) % (256 : Int)), AV.sint IntKind.u8 ((msK y).v0 / (16777216 : Int) % (256 : Int)), AV.sint IntKind.u8 ((msK y).v0 / (65536 : Int) % (256 : Int)), AV.sint IntKind.u8 ((msK y).v0 / (256 : Int) % (256 : Int)), AV.sint IntKind.u8 ((msK y).v0 / (1 : Int) % (256 : Int)), AV.sint IntKind.u8 ((msK y).v1 / (72057594037927936 : Int) % (256 : Int)), AV.sint IntKind.u8 ((msK y).v1 / (281474976710656 : Int) % (256 : Int)), AV.sint IntKind.u8 ((msK y).v1 / (1099511627776 : Int) % (256 : Int)), AV.sint IntKind.u8 ((msK y).v1 / (4294967296 : Int) % (256 : Int)), AV.sint IntKind.u8 ((msK y).v1 / (16777216 : Int) % (256 : Int)), AV.sint IntKind.u8 ((msK y).v1 / (65536 : Int) % (256 : Int)), AV.sint IntKind.u8 ((msK y).v1 / (256 : Int) % (256 : Int)), AV.sint IntKind.u8 ((msK y).v1 / (1 : Int) % (256 : Int)), AV.sint IntKind.u8 ((msK y).v2 / (72057594037927936 : Int) % (256 : Int)), AV.sint IntKind.u8 ((msK y).v2 / (281474976710656 : Int) % (256 : Int)), AV.sint IntKind.u8 ((msK y).v2 / (1099511627776 : Int) % (256 : Int)), AV.sint IntKind.u8 ((msK y).v2 / (4294967296 : Int) % (256 : Int)), AV.sint IntKind.u8 ((msK y).v2 / (16777216 : Int) % (256 : Int)), AV.sint IntKind.u8 ((msK y).v2 / (65536 : Int) % (256 : Int)), AV.sint IntKind.u8 ((msK y).v2 / (256 : Int) % (256 : Int)), AV.sint IntKind.u8 ((msK y).v2 / (1 : Int) % (256 : Int)), AV.sint IntKind.u8 ((msK y).v3 / (72057594037927936 : Int) % (256 : Int)), AV.sint IntKind.u8 ((msK y).v3 / (281474976710656 : Int) % (256 : Int)), AV.sint IntKind.u8 ((msK y).v3 / (1099511627776 : Int) % (256 : Int)), AV.sint IntKind.u8 ((msK y).v3 / (4294967296 : Int) % (256 : Int)), AV.sint IntKind.u8 ((msK y).v3 / (16777216 : Int) % (256 : Int)), AV.sint IntKind.u8 ((msK y).v3 / (65536 : Int) % (256 : Int)), AV.sint IntKind.u8 ((msK y).v3 / (256 : Int) % (256 : Int)), AV.sint IntKind.u8 ((msK y).v3 / (1 : Int) % (256 : Int)), AV.sint IntKind.u8 ((msK y).v4 / (72057594037927936 : Int) % (256 : Int)), AV.sint IntKind.u8 ((msK y).v4 / (281474976710656 : Int) % (256 : Int)), AV.sint IntKind.u8 ((msK y).v4 / (1099511627776 : Int) % (256 : Int)), AV.sint IntKind.u8 ((msK y).v4 / (4294967296 : Int) % (256 : Int)), AV.sint IntKind.u8 ((msK y).v4 / (16777216 : Int) % (256 : Int)), AV.sint IntKind.u8 ((msK y).v4 / (65536 : Int) % (256 : Int)), AV.sint IntKind.u8 ((msK y).v4 / (256 : Int) % (256 : Int)), AV.sint IntKind.u8 ((msK y).v4 / (1 : Int) % (256 : Int)), AV.sint IntKind.u8 ((msK y).v5 / (72057594037927936 : Int) % (256 : Int)), AV.sint IntKind.u8 ((msK y).v5 / (281474976710656 : Int) % (256 : Int)), AV.sint IntKind.u8 ((msK y).v5 / (1099511627776 : Int) % (256 : Int)), AV.sint IntKind.u8 ((msK y).v5 / (4294967296 : Int) % (256 : Int)), AV.sint IntKind.u8 ((msK y).v5 / (16777216 : Int) % (256 : Int)), AV.sint IntKind.u8 ((msK y).v5 / (65536 : Int) % (256 : Int)), AV.sint IntKind.u8 ((msK y).v5 / (256 : Int) % (256 : Int)), AV.sint IntKind.u8 ((msK y).v5 / (1 : Int) % (256 : Int)), AV.sint IntKind.u8 ((msK y).n / (72057594037927936 : Int) % (256 : Int)), AV.sint IntKind.u8 ((msK y).n / (281474976710656 : Int) % (256 : Int)), AV.sint IntKind.u8 ((msK y).n / (1099511627776 : Int) % (256 : Int)), AV.sint IntKind.u8 ((msK y).n / (4294967296 : Int) % (256 : Int)), AV.sint IntKind.u8 ((msK y).n / (16777216 : Int) % (256 : Int)), AV.sint IntKind.u8 ((msK y).n / (65536 : Int) % (256 : Int)), AV.sint IntKind.u8 ((msK y).n / (256 : Int) % (256 : Int)), AV.sint IntKind.u8 ((msK y).n % (256 : Int)), AV.sint IntKind.u8 ((msK y).a / (72057594037927936 : Int) % (256 : Int)), AV.sint IntKind.u8 ((msK y).a / (281474976710656 : Int) % (256 : Int)), AV.sint IntKind.u8 ((msK y).a / (1099511627776 : Int) % (256 : Int)), AV.sint IntKind.u8 ((msK y).a / (4294967296 : Int) % (256 : Int)), AV.sint IntKind.u8 ((msK y).a / (16777216 : Int) % (256 : Int)), AV.sint IntKind.u8 ((msK y).a / (65536 : Int) % (256 : Int)), AV.sint IntKind.u8 ((msK y).a / (256 : Int) % (256 : Int)), AV.sint IntKind.u8 ((msK y).a % (256 : Int))]) (Classical.propDecidable _)) (.left (decide (List.map (fun (x : AV) => natOf [x]) [AV.sint IntKind.u8 (msK y).k, AV.sint IntKind.u8 ((msK y).f % (256 : Int)), AV.sint IntKind.u8 ((msK y).t % (256 : Int)), AV.sint IntKind.u8 ((msK y).v0 / (72057594037927936 : Int) % (256 : Int)), AV.sint IntKind.u8 ((msK y).v0 / (281474976710656 : Int) % (256 : Int)), AV.sint IntKind.u8 ((msK y).v0 / (1099511627776 : Int) % (256 : Int)), AV.sint IntKind.u8 ((msK y).v0 / (4294967296 : Int) % (256 : Int)), AV.sint IntKind.u8 ((msK y).v0 / (16777216 : Int) % (256 : Int)), AV.sint IntKind.u8 ((msK y).v0 / (65536 : Int) % (256 : Int)), AV.sint IntKind.u8 ((msK y).v0 / (256 : Int) % (256 : Int)), AV.sint IntKind.u8 ((msK y).v0 / (1 : Int) % (256 : Int)), AV.sint IntKind.u8 ((msK y).v1 / (72057594037927936 : Int) % (256 : Int)), AV.sint IntKind.u8 ((msK y).v1 / (281474976710656 : Int) % (256 : Int)), AV.sint IntKind.u8 ((msK y).v1 / (1099511627776 : Int) % (256 : Int)), AV.sint IntKind.u8 ((msK y).v1 / (4294967296 : Int) % (256 : Int)), AV.sint IntKind.u8 ((msK y).v1 / (16777216 : Int) % (256 : Int)), AV.sint IntKind.u8 ((msK y).v1 / (65536 : Int) % (256 : Int)), AV.sint IntKind.u8 ((msK y).v1 / (256 : Int) % (256 : Int)), AV.sint IntKind.u8 ((msK y).v1 / (1 : Int) % (256 : Int)), AV.sint IntKind.u8 ((msK y).v2 / (72057594037927936 : Int) % (256 : Int)), AV.sint IntKind.u8 ((msK y).v2 / (281474976710656 : Int) % (256 : Int)), AV.sint IntKind.u8 ((msK y).v2 / (1099511627776 : Int) % (256 : Int)), AV.sint IntKind.u8 ((msK y).v2 / (4294967296 : Int) % (256 : Int)), AV.sint IntKind.u8 ((msK y).v2 / (16777216 : Int) % (256 : Int)), AV.sint IntKind.u8 ((msK y).v2 / (65536 : Int) % (256 : Int)), AV.sint IntKind.u8 ((msK y).v2 / (256 : Int) % (256 : Int)), AV.sint IntKind.u8 ((msK y).v2 / (1 : Int) % (256 : Int)), AV.sint IntKind.u8 ((msK y).v3 / (72057594037927936 : Int) % (256 : Int)), AV.sint IntKind.u8 ((msK y).v3 / (281474976710656 : Int) % (256 : Int)), AV.sint IntKind.u8 ((msK y).v3 / (1099511627776 : Int) % (256 : Int)), AV.sint IntKind.u8 ((msK y).v3 / (4294967296 : Int) % (256 : Int)), AV.sint IntKind.u8 ((msK y).v3 / (16777216 : Int) % (256 : Int)), AV.sint IntKind.u8 ((msK y).v3 / (65536 : Int) % (256 : Int)), AV.sint IntKind.u8 ((msK y).v3 / (256 : Int) % (256 : Int)), AV.sint IntKind.u8 ((msK y).v3 / (1 : Int) % (256 : Int)), AV.sint IntKind.u8 ((msK y).v4 / (72057594037927936 : Int) % (256 : Int)), AV.sint IntKind.u8 ((msK y).v4 / (281474976710656 : Int) % (256 : Int)), AV.sint IntKind.u8 ((msK y).v4 / (1099511627776 : Int) % (256 : Int)), AV.sint IntKind.u8 ((msK y).v4 / (4294967296 : Int) % (256 : Int)), AV.sint IntKind.u8 ((msK y).v4 / (16777216 : Int) % (256 : Int)), AV.sint IntKind.u8 ((msK y).v4 / (65536 : Int) % (256 : Int)), AV.sint IntKind.u8 ((msK y).v4 / (256 : Int) % (256 : Int)), AV.sint IntKind.u8 ((msK y).v4 / (1 : Int) % (256 : Int)), AV.sint IntKind.u8 ((msK y).v5 / (72057594037927936 : Int) % (256 : Int)), AV.sint IntKind.u8 ((msK y).v5 / (281474976710656 : Int) % (256 : Int)), AV.sint IntKind.u8 ((msK y).v5 / (1099511627776 : Int) % (256 : Int)), AV.sint IntKind.u8 ((msK y).v5 / (4294967296 : Int) % (256 : Int)), AV.sint IntKind.u8 ((msK y).v5 / (16777216 : Int) % (256 : Int)), AV.sint IntKind.u8 ((msK y).v5 / (65536 : Int) % (256 : Int)), AV.sint IntKind.u8 ((msK y).v5 / (256 : Int) % (256 : Int)), AV.sint IntKind.u8 ((msK y).v5 / (1 : Int) % (256 : Int)), AV.sint IntKind.u8 ((msK y).n / (72057594037927936 : Int) % (256 : Int)), AV.sint IntKind.u8 ((msK y).n / (281474976710656 : Int) % (256 : Int)), AV.sint IntKind.u8 ((msK y).n / (1099511627776 : Int) % (256 : Int)), AV.sint IntKind.u8 ((msK y).n / (4294967296 : Int) % (256 : Int)), AV.sint IntKind.u8 ((msK y).n / (16777216 : Int) % (256 : Int)), AV.sint IntKind.u8 ((msK y).n / (65536 : Int) % (256 : Int)), AV.sint IntKind.u8 ((msK y).n / (256 : Int) % (256 : Int)), AV.sint IntKind.u8 ((msK y).n % (256 : Int)), AV.sint IntKind.u8 ((msK y).a / (72057594037927936 : Int) % (256 : Int)), AV.sint IntKind.u8 ((msK y).a / (281474976710656 : Int) % (256 : Int)), AV.sint IntKind.u8 ((msK y).a / (1099511627776 : Int) % (256 : Int)), AV.sint IntKind.u8 ((msK y).a / (4294967296 : Int) % (256 : Int)), AV.sint IntKind.u8 ((msK y).a / (16777216 : Int) % (256 : Int)), AV.sint IntKind.u8 ((msK y).a / (65536 : Int) % (256 : Int)), AV.sint IntKind.u8 ((msK y).a / (256 : Int) % (256 : Int)), AV.sint IntKind.u8 ((msK y).a % (256 : Int))] = bytesOf n (by8 y))) (.stop (Hd.call (27 : Nat) []) [] ([]))))))) (by kernel_rfl) ?_
       refine hold_leftD0 (Classical.byContradiction fun h10 => by exact h10 (all_by8 _ _)) ?_
       refine hold_leftD0 (Classical.byContradiction fun h10 => by exact h10 rfl) ?_
       refine hold_leftD0 (Classical.byContradiction fun h10 => by exact h10 ⟨rfl, rfl, rfl⟩) ?_
       refine hold_leftD0 (Classical.byContradiction fun h10 => by exact h10 (byteL_cast (l' := (msK y).ask.map cell8) (by kernel_rfl) (byteL_ask ms_k))) ?_
       refine hold_leftD0 (Classical.byContradiction fun h10 => by exact h10 (Eq.trans (by kernel_rfl) (ask_back iy))) ?_
       refine hold_stop (fun hd hb => ?_)
       refine ok_call0 hd works rfl ?_
       rintro x G ⟨rfl, rfl⟩
       refine ⟨rfl, fun g hg => (by cases hg), ?_⟩
       refine ok_sk (.stop []) (S := .stop (Hd.leaf (AV.bool Bool.true)) [] ([])) (by kernel_rfl) ?_
       refine hold_stop (fun hd hb => ?_)
       exact ok_leaf0 hd rfl ⟨rfl, rfl⟩
      refine ok_sk (.stop []) (S := .stop (Hd.call (27 : Nat) []) [] ([])) (by kernel_rfl) ?_
      refine hold_stop (fun hd hb => ?_)
      refine ok_call0 hd works rfl ?_
      rintro x G ⟨rfl, rfl⟩
      refine ⟨rfl, fun g hg => (by cases hg), ?_⟩
      refine ok_sk (.stop []) (S := .stop (Hd.leaf (AV.bool Bool.true)) [] ([])) (by kernel_rfl) ?_
      refine hold_stop (fun hd hb => ?_)
      exact ok_leaf0 hd rfl ⟨rfl, rfl⟩
     refine ok_sk (.stop []) (S := .stop (Hd.leaf (AV.bool Bool.false)) [] ([])) (by kernel_rfl) ?_
     refine hold_stop (fun hd hb => ?_)
     exact absurd ⟨rfl, rfl, (isSyn_put hr hE mp mk).2.2⟩ sm
    refine ok_sk (.l (.l (.stop [1]))) (S := .left (decide ((-9223372036854775808 : Int) ≤ (↑((51 : Nat) + (91 : Nat) * q) : Int) - (1 : Int) ∧ (↑((51 : Nat) + (91 : Nat) * q) : Int) - (1 : Int) ≤ (9223372036854775807 : Int))) (.left (decide ((0 : Int) = (0 : Int) ∧ (0 : Int) ≤ (↑((51 : Nat) + (91 : Nat) * q) : Int) - (1 : Int) ∧ (↑((51 : Nat) + (91 : Nat) * q) : Int) - (1 : Int) ≤ (↑((51 : Nat) + (91 : Nat) * q) : Int))) (.stop (Hd.call (28 : Nat) [AV.gsl (1 : Nat) ((↑((51 : Nat) + (91 : Nat) * q) : Int) - (1 : Int)).toNat]) [1] ([(Option.some (Blk.seq (1 : Nat) (1 : Nat) ((51 : Nat) + (91 : Nat) * q) (synY m E)), Option.some ((1 : Nat), (51 : Nat) + (91 : Nat) * q, synY m E))])))) (by kernel_rfl) ?_
    refine hold_leftD0 (Classical.byContradiction fun h5 => by omega) ?_
    refine hold_leftD0 (Classical.byContradiction fun h5 => by omega) ?_
    refine hold_stop (fun hd hb => ?_)
    first
      | (refine ok_call0 hd (mget n y (by omega)) rfl ?_
         rintro x G (⟨q2, iy, rfl, rfl⟩ | ⟨iy, rfl, rfl⟩ | ⟨iy, rfl, rfl⟩ | ⟨rfl, rfl, no1, no2⟩) <;> first | refine ⟨rfl, fun g hg => (by rcases List.mem_singleton.1 hg with rfl; exact fun _ _ => rfl), ?_⟩ | refine ⟨rfl, fun g hg => (by cases hg), ?_⟩)
      | refine get_syn hd (look_seq hb) (by omega) hr hE mp mk (by omega) ?_ (fun q0 => ?_)
      | refine get_bad hd (look_seq hb) (by omega) (by omega) (by exact all_syn (by omega) _ _) (by omega) (by omega) ?_
      | refine get_bad hd (look_seq hb) (by omega) (by omega) (by exact all_glue0 (all_syn (by omega) _ _)) (by omega) (by omega) ?_
      | refine get_badC (n := 66) hd (look_cells hb) (by omega) (Nat.le_of_ble_eq_true (by kernel_rfl)) (by omega) (by exact byteL_cast (l' := m.ask.map cell8) (by kernel_rfl) (byteL_ask (by omega))) (by omega) (by omega) ?_
      | refine get_badC (n := 68) hd (look_cells hb) (by omega) (Nat.le_of_ble_eq_true (by kernel_rfl)) (by omega) (by exact byteL_cast (l' := m.ask.map cell8 ++ [.int .u8 0]) (by kernel_rfl) (byteL_app (byteL_ask (by omega)) byteL_zero)) (by omega) (by omega) ?_
      | refine get_ask hd (look_cells hb) (by kernel_rfl) (by omega) hr mp mk ?_
    refine ok_sk (.l (.l (.l (.l (.stop [7]))))) (S := .left (decide ((51 : Nat) + (91 : Nat) * q ≤ (51 : Nat) + (91 : Nat) * q)) (.left (@decide ((51 : Nat) + (91 : Nat) * q < (65536 : Nat) ∧ RowsOK (1 : Nat) ((51 : Nat) + (91 : Nat) * q) (synY m E)) (Classical.propDecidable _)) (.left (@decide ((1 : Nat) < (65536 : Nat) ∧ RowsOK (1 : Nat) (1 : Nat) fun (i : Nat) => List.take (1 : Nat) (List.drop (i * (1 : Nat)) [AV.int IntKind.u8 (0 : Int)])) (Classical.propDecidable _)) (.left (decide ((51 : Nat) + (91 : Nat) * q ≤ (51 : Nat) + (91 : Nat) * q ∧ (51 : Nat) + (91 : Nat) * q < (65536 : Nat))) (.stop (Hd.call (28 : Nat) [AV.gsl (7 : Nat) ((51 : Nat) + (91 : Nat) * q + (1 : Nat))]) [7] ([(Option.some (Blk.seq (7 : Nat) (1 : Nat) ((51 : Nat) + (91 : Nat) * q + (1 : Nat)) (glue ((51 : Nat) + (91 : Nat) * q) (synY m E) fun (i : Nat) => List.take (1 : Nat) (List.drop (i * (1 : Nat)) [AV.int IntKind.u8 (0 : Int)]))), Option.some ((1 : Nat), (51 : Nat) + (91 : Nat) * q + (1 : Nat), glue ((51 : Nat) + (91 : Nat) * q) (synY m E) fun (i : Nat) => List.take (1 : Nat) (List.drop (i * (1 : Nat)) [AV.int IntKind.u8 (0 : Int)])))])))))) (by kernel_rfl) ?_
    refine hold_leftD0 (Classical.byContradiction fun h6 => by omega) ?_
    refine hold_leftD0 (Classical.byContradiction fun h6 => by exact h6 ⟨by omega, rowsS _ _ _⟩) ?_
    refine hold_leftD0 (Classical.byContradiction fun h6 => by exact h6 ⟨by omega, fun i hi => by obtain rfl : i = 0 := (by omega); exact ⟨rfl, rfl⟩⟩) ?_
    refine hold_leftD0 (Classical.byContradiction fun h6 => by omega) ?_
    refine hold_stop (fun hd hb => ?_)
    first
      | (refine ok_call0 hd (mget n y (by omega)) rfl ?_
         rintro x G (⟨q2, iy, rfl, rfl⟩ | ⟨iy, rfl, rfl⟩ | ⟨iy, rfl, rfl⟩ | ⟨rfl, rfl, no1, no2⟩) <;> first | refine ⟨rfl, fun g hg => (by rcases List.mem_singleton.1 hg with rfl; exact fun _ _ => rfl), ?_⟩ | refine ⟨rfl, fun g hg => (by cases hg), ?_⟩)
      | refine get_syn hd (look_seq hb) (by omega) hr hE mp mk (by omega) ?_ (fun q0 => ?_)
      | refine get_bad hd (look_seq hb) (by omega) (by omega) (by exact all_syn (by omega) _ _) (by omega) (by omega) ?_
      | refine get_bad hd (look_seq hb) (by omega) (by omega) (by exact all_glue0 (all_syn (by omega) _ _)) (by omega) (by omega) ?_
      | refine get_badC (n := 66) hd (look_cells hb) (by omega) (Nat.le_of_ble_eq_true (by kernel_rfl)) (by omega) (by exact byteL_cast (l' := m.ask.map cell8) (by kernel_rfl) (byteL_ask (by omega))) (by omega) (by omega) ?_
      | refine get_badC (n := 68) hd (look_cells hb) (by omega) (Nat.le_of_ble_eq_true (by kernel_rfl)) (by omega) (by exact byteL_cast (l' := m.ask.map cell8 ++ [.int .u8 0]) (by kernel_rfl) (byteL_app (byteL_ask (by omega)) byteL_zero)) (by omega) (by omega) ?_
      | refine get_ask hd (look_cells hb) (by kernel_rfl) (by omega) hr mp mk ?_
    refine ok_sk (.stop []) (S := .stop (Hd.call (34 : Nat) [AV.agg [AV.sint IntKind.u8 m.k, AV.sint IntKind.i64 m.f, AV.sint IntKind.i64 m.t, AV.sint IntKind.u64 m.v0, AV.sint IntKind.u64 m.v1, AV.sint IntKind.u64 m.v2, AV.sint IntKind.u64 m.v3, AV.sint IntKind.u64 m.v4, AV.sint IntKind.u64 m.v5, AV.nilSlice, AV.sint IntKind.u64 m.n, AV.sint IntKind.i64 m.a], AV.agg [AV.sint IntKind.u8 m.k, AV.sint IntKind.i64 m.f, AV.sint IntKind.i64 m.t, AV.sint IntKind.u64 m.v0, AV.sint IntKind.u64 m.v1, AV.sint IntKind.u64 m.v2, AV.sint IntKind.u64 m.v3, AV.sint IntKind.u64 m.v4, AV.sint IntKind.u64 m.v5, AV.data (14 : Nat) q fun (i : Nat) => (E i).row, AV.sint IntKind.u64 m.n, AV.sint IntKind.i64 m.a]]) [] ([])) (by kernel_rfl) ?_
    refine hold_stop (fun hd hb => ?_)
    first
      | (refine ok_call hd (msame m m q q (msE (synN m E)) E (by omega) (by omega)) ⟨(vrow (m := m) (d := evs q (msE (synN m E))) (by exact ⟨rfl, q, _, look_seq hb, Nat.le_refl _, fun i hi => ⟨rfl, rfl⟩⟩) (by exact ⟨rfl, rfl⟩) (by exact ⟨rfl, rfl⟩)).1, (views_self _ (by exact rfl))⟩ ?_
         rintro x G ⟨rfl, ⟨rfl, sm⟩ | ⟨rfl, sm⟩⟩ <;> refine ⟨rfl, fun g hg => (by cases hg), ?_⟩)
      | (refine ok_call hd (msame m m 0 q (msE (synN m E)) E (by omega) (by omega)) ⟨(vrow (m := m) (d := evs 0 (msE (synN m E))) (by exact rfl) (by exact ⟨rfl, rfl⟩) (by exact ⟨rfl, rfl⟩)).1, (views_self _ (by exact rfl))⟩ ?_
         rintro x G ⟨rfl, ⟨rfl, sm⟩ | ⟨rfl, sm⟩⟩ <;> refine ⟨rfl, fun g hg => (by cases hg), ?_⟩)
    ·
     refine ok_sk (.stop []) (S := .stop (Hd.call (28 : Nat) [AV.data (1 : Nat) n (by8 y)]) [] ([])) (by kernel_rfl) ?_
     refine hold_stop (fun hd hb => ?_)
     first
       | (refine ok_call0 hd (mget n y (by omega)) rfl ?_
          rintro x G (⟨q2, iy, rfl, rfl⟩ | ⟨iy, rfl, rfl⟩ | ⟨iy, rfl, rfl⟩ | ⟨rfl, rfl, no1, no2⟩) <;> first | refine ⟨rfl, fun g hg => (by rcases List.mem_singleton.1 hg with rfl; exact fun _ _ => rfl), ?_⟩ | refine ⟨rfl, fun g hg => (by cases hg), ?_⟩)
       | refine get_syn hd (look_seq hb) (by omega) hr hE mp mk (by omega) ?_ (fun q0 => ?_)
       | refine get_bad hd (look_seq hb) (by omega) (by omega) (by exact all_syn (by omega) _ _) (by omega) (by omega) ?_
       | refine get_bad hd (look_seq hb) (by omega) (by omega) (by exact all_glue0 (all_syn (by omega) _ _)) (by omega) (by omega) ?_
       | refine get_badC (n := 66) hd (look_cells hb) (by omega) (Nat.le_of_ble_eq_true (by kernel_rfl)) (by omega) (by exact byteL_cast (l' := m.ask.map cell8) (by kernel_rfl) (byteL_ask (by omega))) (by omega) (by omega) ?_
       | refine get_badC (n := 68) hd (look_cells hb) (by omega) (Nat.le_of_ble_eq_true (by kernel_rfl)) (by omega) (by exact byteL_cast (l' := m.ask.map cell8 ++ [.int .u8 0]) (by kernel_rfl) (byteL_app (byteL_ask (by omega)) byteL_zero)) (by omega) (by omega) ?_
       | refine get_ask hd (look_cells hb) (by kernel_rfl) (by omega) hr mp mk ?_
     ·
      refine ok_sk (.l (.stop [9])) (S := .left (@decide (AllBytes n (by8 y)) (Classical.propDecidable _)) (.stop (Hd.call (32 : Nat) [AV.agg [AV.sint IntKind.u8 (msS y).k, AV.sint IntKind.i64 (msS y).f, AV.sint IntKind.i64 (msS y).t, AV.sint IntKind.u64 (msS y).v0, AV.sint IntKind.u64 (msS y).v1, AV.sint IntKind.u64 (msS y).v2, AV.sint IntKind.u64 (msS y).v3, AV.sint IntKind.u64 (msS y).v4, AV.sint IntKind.u64 (msS y).v5, AV.gsl (9 : Nat) q2, AV.sint IntKind.u64 (msS y).n, AV.sint IntKind.i64 (msS y).a]]) [9] ([(Option.some (Blk.seq (9 : Nat) (14 : Nat) q2 fun (j : Nat) => (evAt ((91 : Nat) * j) fun (i : Nat) => y ((51 : Nat) + i)).row), Option.some ((14 : Nat), q2, fun (j : Nat) => (evAt ((91 : Nat) * j) fun (i : Nat) => y ((51 : Nat) + i)).row))]))) (by kernel_rfl) ?_
      refine hold_leftD0 (Classical.byContradiction fun h9 => by exact h9 (all_by8 _ _)) ?_
      refine hold_stop (fun hd hb => ?_)
      first
        | (refine ok_call0 hd (mput m q E (by omega) hr hE) rfl ?_
           rintro x G (⟨rfl, rfl, mp⟩ | ⟨mk, mp, rfl, rfl⟩ | ⟨mk, mp, rfl, rfl⟩) <;> first | refine ⟨rfl, fun g hg => (by rcases List.mem_singleton.1 hg with rfl; exact gdf_syn _ _ _), ?_⟩ | refine ⟨rfl, fun g hg => (by rcases List.mem_singleton.1 hg with rfl; exact rfl), ?_⟩ | refine ⟨rfl, fun g hg => (by cases hg), ?_⟩)
        | refine put_syn y hd (look_seq hb) iy (by omega) ?_
        | refine put_syn0 y hd iy (by omega) ?_
        | refine put_ask y hd iy ?_
      refine ok_sk (.l (.l (.l (.l (.l (.stop [])))))) (S := .left (@decide (AllBytes n (by8 y)) (Classical.propDecidable _)) (.left (decide (bytesOf n (by8 y) = bytesOf n (by8 y))) (.left (@decide ((1 : Nat) = (1 : Nat) ∧ n = n ∧ by8 y = by8 y) (Classical.propDecidable _)) (.left (@decide ((51 : Nat) + (91 : Nat) * q2 ≤ (51 : Nat) + (91 : Nat) * q2 ∧ AllBytes ((51 : Nat) + (91 : Nat) * q2) (synY { k := (↑(y (0 : Nat) % (256 : Nat)) : Int), f := (↑(y (1 : Nat) % (256 : Nat)) : Int), t := (↑(y (2 : Nat) % (256 : Nat)) : Int), v0 := n8 fun (i : Nat) => y ((3 : Nat) + ((0 : Nat) + i)), v1 := n8 fun (i : Nat) => y ((3 : Nat) + ((8 : Nat) + i)), v2 := n8 fun (i : Nat) => y ((3 : Nat) + ((16 : Nat) + i)), v3 := n8 fun (i : Nat) => y ((3 : Nat) + ((24 : Nat) + i)), v4 := n8 fun (i : Nat) => y ((3 : Nat) + ((32 : Nat) + i)), v5 := n8 fun (i : Nat) => y ((3 : Nat) + ((40 : Nat) + i)), n := (0 : Int), a := (0 : Int) } fun (j : Nat) => evAt ((91 : Nat) * j) fun (i : Nat) => y ((51 : Nat) + i))) (Classical.propDecidable _)) (.left (decide (bytesOf ((51 : Nat) + (91 : Nat) * q2) (synY { k := (↑(y (0 : Nat) % (256 : Nat)) : Int), f := (↑(y (1 : Nat) % (256 : Nat)) : Int), t := (↑(y (2 : Nat) % (256 : Nat)) : Int), v0 := n8 fun (i : Nat) => y ((3 : Nat) + ((0 : Nat) + i)), v1 := n8 fun (i : Nat) => y ((3 : Nat) + ((8 : Nat) + i)), v2 := n8 fun (i : Nat) => y ((3 : Nat) + ((16 : Nat) + i)), v3 := n8 fun (i : Nat) => y ((3 : Nat) + ((24 : Nat) + i)), v4 := n8 fun (i : Nat) => y ((3 : Nat) + ((32 : Nat) + i)), v5 := n8 fun (i : Nat) => y ((3 : Nat) + ((40 : Nat) + i)), n := (0 : Int), a := (0 : Int) } fun (j : Nat) => evAt ((91 : Nat) * j) fun (i : Nat) => y ((51 : Nat) + i)) = bytesOf n (by8 y))) (.stop (Hd.call (27 : Nat) []) [] ([]))))))) (by kernel_rfl) ?_
      refine hold_leftD0 (Classical.byContradiction fun h10 => by exact h10 (all_by8 _ _)) ?_
      refine hold_leftD0 (Classical.byContradiction fun h10 => by exact h10 rfl) ?_
      refine hold_leftD0 (Classical.byContradiction fun h10 => by exact h10 ⟨rfl, rfl, rfl⟩) ?_
      refine hold_leftD0 (Classical.byContradiction fun h10 => by exact h10 ⟨Nat.le_refl _, all_syn ms_k _ _⟩) ?_
      refine hold_leftD0 (Classical.byContradiction fun h10 => by exact h10 (syn_back iy)) ?_
      refine hold_stop (fun hd hb => ?_)
      refine ok_call0 hd works rfl ?_
      rintro x G ⟨rfl, rfl⟩
      refine ⟨rfl, fun g hg => (by cases hg), ?_⟩
      refine ok_sk (.stop []) (S := .stop (Hd.leaf (AV.bool Bool.true)) [] ([])) (by kernel_rfl) ?_
      refine hold_stop (fun hd hb => ?_)
      exact ok_leaf0 hd rfl ⟨rfl, rfl⟩
     ·
      refine ok_sk (.l (.stop [])) (S := .left (@decide (AllBytes n (by8 y)) (Classical.propDecidable _)) (.stop (Hd.call (32 : Nat) [AV.agg [AV.sint IntKind.u8 (msS y).k, AV.sint IntKind.i64 (msS y).f, AV.sint IntKind.i64 (msS y).t, AV.sint IntKind.u64 (msS y).v0, AV.sint IntKind.u64 (msS y).v1, AV.sint IntKind.u64 (msS y).v2, AV.sint IntKind.u64 (msS y).v3, AV.sint IntKind.u64 (msS y).v4, AV.sint IntKind.u64 (msS y).v5, AV.nilSlice, AV.sint IntKind.u64 (msS y).n, AV.sint IntKind.i64 (msS y).a]]) [] ([]))) (by kernel_rfl) ?_
      refine hold_leftD0 (Classical.byContradiction fun h9 => by exact h9 (all_by8 _ _)) ?_
      refine hold_stop (fun hd hb => ?_)
      first
        | (refine ok_call0 hd (mput m q E (by omega) hr hE) rfl ?_
           rintro x G (⟨rfl, rfl, mp⟩ | ⟨mk, mp, rfl, rfl⟩ | ⟨mk, mp, rfl, rfl⟩) <;> first | refine ⟨rfl, fun g hg => (by rcases List.mem_singleton.1 hg with rfl; exact gdf_syn _ _ _), ?_⟩ | refine ⟨rfl, fun g hg => (by rcases List.mem_singleton.1 hg with rfl; exact rfl), ?_⟩ | refine ⟨rfl, fun g hg => (by cases hg), ?_⟩)
        | refine put_syn y hd (look_seq hb) iy (by omega) ?_
        | refine put_syn0 y hd iy (by omega) ?_
        | refine put_ask y hd iy ?_
      refine ok_sk (.l (.l (.l (.l (.l (.stop [])))))) (S := .left (@decide (AllBytes n (by8 y)) (Classical.propDecidable _)) (.left (decide (bytesOf n (by8 y) = bytesOf n (by8 y))) (.left (@decide ((1 : Nat) = (1 : Nat) ∧ n = n ∧ by8 y = by8 y) (Classical.propDecidable _)) (.left (@decide ((51 : Nat) ≤ (51 : Nat) ∧ AllBytes (51 : Nat) (synY { k := (↑(y (0 : Nat) % (256 : Nat)) : Int), f := (↑(y (1 : Nat) % (256 : Nat)) : Int), t := (↑(y (2 : Nat) % (256 : Nat)) : Int), v0 := n8 fun (i : Nat) => y ((3 : Nat) + ((0 : Nat) + i)), v1 := n8 fun (i : Nat) => y ((3 : Nat) + ((8 : Nat) + i)), v2 := n8 fun (i : Nat) => y ((3 : Nat) + ((16 : Nat) + i)), v3 := n8 fun (i : Nat) => y ((3 : Nat) + ((24 : Nat) + i)), v4 := n8 fun (i : Nat) => y ((3 : Nat) + ((32 : Nat) + i)), v5 := n8 fun (i : Nat) => y ((3 : Nat) + ((40 : Nat) + i)), n := (0 : Int), a := (0 : Int) } fun (j : Nat) => evAt ((91 : Nat) * j) fun (i : Nat) => y ((51 : Nat) + i))) (Classical.propDecidable _)) (.left (decide (bytesOf (51 : Nat) (synY { k := (↑(y (0 : Nat) % (256 : Nat)) : Int), f := (↑(y (1 : Nat) % (256 : Nat)) : Int), t := (↑(y (2 : Nat) % (256 : Nat)) : Int), v0 := n8 fun (i : Nat) => y ((3 : Nat) + ((0 : Nat) + i)), v1 := n8 fun (i : Nat) => y ((3 : Nat) + ((8 : Nat) + i)), v2 := n8 fun (i : Nat) => y ((3 : Nat) + ((16 : Nat) + i)), v3 := n8 fun (i : Nat) => y ((3 : Nat) + ((24 : Nat) + i)), v4 := n8 fun (i : Nat) => y ((3 : Nat) + ((32 : Nat) + i)), v5 := n8 fun (i : Nat) => y ((3 : Nat) + ((40 : Nat) + i)), n := (0 : Int), a := (0 : Int) } fun (j : Nat) => evAt ((91 : Nat) * j) fun (i : Nat) => y ((51 : Nat) + i)) = bytesOf n (by8 y))) (.stop (Hd.call (27 : Nat) []) [] ([]))))))) (by kernel_rfl) ?_
      refine hold_leftD0 (Classical.byContradiction fun h10 => by exact h10 (all_by8 _ _)) ?_
      refine hold_leftD0 (Classical.byContradiction fun h10 => by exact h10 rfl) ?_
      refine hold_leftD0 (Classical.byContradiction fun h10 => by exact h10 ⟨rfl, rfl, rfl⟩) ?_
      refine hold_leftD0 (Classical.byContradiction fun h10 => by exact h10 ⟨Nat.le_refl _, all_syn ms_k _ _⟩) ?_
      refine hold_leftD0 (Classical.byContradiction fun h10 => by exact h10 (syn_back iy)) ?_
      refine hold_stop (fun hd hb => ?_)
      refine ok_call0 hd works rfl ?_
      rintro x G ⟨rfl, rfl⟩
      refine ⟨rfl, fun g hg => (by cases hg), ?_⟩
      refine ok_sk (.stop []) (S := .stop (Hd.leaf (AV.bool Bool.true)) [] ([])) (by kernel_rfl) ?_
      refine hold_stop (fun hd hb => ?_)
      exact ok_leaf0 hd rfl ⟨rfl, rfl⟩
     ·
      refine ok_sk (.l (.stop [])) (S := .left (@decide (AllBytes n (by8 y)) (Classical.propDecidable _)) (.stop (Hd.call (32 : Nat) [AV.agg [AV.sint IntKind.u8 (msK y).k, AV.sint IntKind.i64 (msK y).f, AV.sint IntKind.i64 (msK y).t, AV.sint IntKind.u64 (msK y).v0, AV.sint IntKind.u64 (msK y).v1, AV.sint IntKind.u64 (msK y).v2, AV.sint IntKind.u64 (msK y).v3, AV.sint IntKind.u64 (msK y).v4, AV.sint IntKind.u64 (msK y).v5, AV.nilSlice, AV.sint IntKind.u64 (msK y).n, AV.sint IntKind.i64 (msK y).a]]) [] ([]))) (by kernel_rfl) ?_
      refine hold_leftD0 (Classical.byContradiction fun h9 => by exact h9 (all_by8 _ _)) ?_
      refine hold_stop (fun hd hb => ?_)
      first
        | (refine ok_call0 hd (mput m q E (by omega) hr hE) rfl ?_
           rintro x G (⟨rfl, rfl, mp⟩ | ⟨mk, mp, rfl, rfl⟩ | ⟨mk, mp, rfl, rfl⟩) <;> first | refine ⟨rfl, fun g hg => (by rcases List.mem_singleton.1 hg with rfl; exact gdf_syn _ _ _), ?_⟩ | refine ⟨rfl, fun g hg => (by rcases List.mem_singleton.1 hg with rfl; exact rfl), ?_⟩ | refine ⟨rfl, fun g hg => (by cases hg), ?_⟩)
        | refine put_syn y hd (look_seq hb) iy (by omega) ?_
        | refine put_syn0 y hd iy (by omega) ?_
        | refine put_ask y hd iy ?_
      refine ok_sk (.l (.l (.l (.l (.l (.stop [])))))) (S := .left (@decide (AllBytes n (by8 y)) (Classical.propDecidable _)) (.left (decide (bytesOf n (by8 y) = bytesOf n (by8 y))) (.left (@decide ((1 : Nat) = (1 : Nat) ∧ n = n ∧ by8 y = by8 y) (Classical.propDecidable _)) (.left (@decide (ByteL [AV.sint IntKind.u8 (msK y).k, AV.sint IntKind.u8 ((msK y).f % (256 : Int)), AV.sint IntKind.u8 ((msK y).t % (256 : Int)), AV.sint IntKind.u8 ((msK y).v0 / (72057594037927936 : Int) % (256 : Int)), AV.sint IntKind.u8 ((msK y).v0 / (281474976710656 : Int) % (256 : Int)), AV.sint IntKind.u8 ((msK y).v0 / (1099511627776 : Int) % (256 : Int)), AV.sint IntKind.u8 ((msK y).v0 / (4294967296 : Int) % (256 : Int)), AV.sint IntKind.u8 ((msK y).v0 / (16777216 : Int) % (256 : Int)), AV.sint IntKind.u8 ((msK y).v0 / (65536 : Int) % (256 : Int)), AV.sint IntKind.u8 ((msK y).v0 / (256 : Int) % (256 : Int)), AV.sint IntKind.u8 ((msK y).v0 / (1 : Int) % (256 : Int)), AV.sint IntKind.u8 ((msK y).v1 / (72057594037927936 : Int) % (256 : Int)), AV.sint IntKind.u8 ((msK y).v1 / (281474976710656 : Int) % (256 : Int)), AV.sint IntKind.u8 ((msK y).v1 / (1099511627776 : Int) % (256 : Int)), AV.sint IntKind.u8 ((msK y).v1 / (4294967296 : Int) % (256 : Int)), AV.sint IntKind.u8 ((msK y).v1 / (16777216 : Int) % (256 : Int)), AV.sint IntKind.u8 ((msK y).v1 / (65536 : Int) % (256 : Int)), AV.sint IntKind.u8 ((msK y).v1 / (256 : Int) % (256 : Int)), AV.sint IntKind.u8 ((msK y).v1 / (1 : Int) % (256 : Int)), AV.sint IntKind.u8 ((msK y).v2 / (72057594037927936 : Int) % (256 : Int)), AV.sint IntKind.u8 ((msK y).v2 / (281474976710656 : Int) % (256 : Int)), AV.sint IntKind.u8 ((msK y).v2 / (1099511627776 : Int) % (256 : Int)), AV.sint IntKind.u8 ((msK y).v2 / (4294967296 : Int) % (256 : Int)), AV.sint IntKind.u8 ((msK y).v2 / (16777216 : Int) % (256 : Int)), AV.sint IntKind.u8 ((msK y).v2 / (65536 : Int) % (256 : Int)), AV.sint IntKind.u8 ((msK y).v2 / (256 : Int) % (256 : Int)), AV.sint IntKind.u8 ((msK y).v2 / (1 : Int) % (256 : Int)), AV.sint IntKind.u8 ((msK y).v3 / (72057594037927936 : Int) % (256 : Int)), AV.sint IntKind.u8 ((msK y).v3 / (281474976710656 : Int) % (256 : Int)), AV.sint IntKind.u8 ((msK y).v3 / (1099511627776 : Int) % (256 : Int)), AV.sint IntKind.u8 ((msK y).v3 / (4294967296 : Int) % (256 : Int)), AV.sint IntKind.u8 ((msK y).v3 / (16777216 : Int) % (256 : Int)), AV.sint IntKind.u8 ((msK y).v3 / (65536 : Int) % (256 : Int)), AV.sint IntKind.u8 ((msK y).v3 / (256 : Int) % (256 : Int)), AV.sint IntKind.u8 ((msK y).v3 / (1 : Int) % (256 : Int)), AV.sint IntKind.u8 ((msK y).v4 / (72057594037927936 : Int) % (256 : Int)), AV.sint IntKind.u8 ((msK y).v4 / (281474976710656 : Int) % (256 : Int)), AV.sint IntKind.u8 ((msK y).v4 / (1099511627776 : Int) % (256 : Int)), AV.sint IntKind.u8 ((msK y).v4 / (4294967296 : Int) % (256 : Int)), AV.sint IntKind.u8 ((msK y).v4 / (16777216 : Int) % (256 : Int)), AV.sint IntKind.u8 ((msK y).v4 / (65536 : Int) % (256 : Int)), AV.sint IntKind.u8 ((msK y).v4 / (256 : Int) % (256 : Int)), AV.sint IntKind.u8 ((msK y).v4 / (1 : Int) % (256 : Int)), AV.sint IntKind.u8 ((msK y).v5 / (72057594037927936 : Int) % (256 : Int)), AV.sint IntKind.u8 ((msK y).v5 / (281474976710656 : Int) % (256 : Int)), AV.sint IntKind.u8 ((msK y).v5 / (1099511627776 : Int) % (256 : Int)), AV.sint IntKind.u8 ((msK y).v5 / (4294967296 : Int) % (256 : Int)), AV.sint IntKind.u8 ((msK y).v5 / (16777216 : Int) % (256 : Int)), AV.sint IntKind.u8 ((msK y).v5 / (65536 : Int) % (256 : Int)), AV.sint IntKind.u8 ((msK y).v5 / (256 : Int) % (256 : Int)), AV.sint IntKind.u8 ((msK y).v5 / (1 : Int) % (256 : Int)), AV.sint IntKind.u8 ((msK y).n / (72057594037927936 : Int) % (256 : Int)), AV.sint IntKind.u8 ((msK y).n / (281474976710656 : Int) % (256 : Int)), AV.sint IntKind.u8 ((msK y).n / (1099511627776 : Int) % (256 : Int)), AV.sint IntKind.u8 ((msK y).n / (4294967296 : Int) % (256 : Int)), AV.sint IntKind.u8 ((msK y).n / (16777216 : Int) % (256 : Int)), AV.sint IntKind.u8 ((msK y).n / (65536 : Int) % (256 : Int)), AV.sint IntKind.u8 ((msK y).n / (256 : Int) % (256 : Int)), AV.sint IntKind.u8 ((msK y).n % (256 : Int)), AV.sint IntKind.u8 ((msK y).a / (72057594037927936 : Int) % (256 : Int)), AV.sint IntKind.u8 ((msK y).a / (281474976710656 : Int) % (256 : Int)), AV.sint IntKind.u8 ((msK y).a / (1099511627776 : Int) % (256 : Int)), AV.sint IntKind.u8 ((msK y).a / (4294967296 : Int) % (256 : Int)), AV.sint IntKind.u8 ((msK y).a / (16777216 : Int) % (256 : Int)), AV.sint IntKind.u8 ((msK y).a / (65536 : Int) % (256 : Int)), AV.sint IntKind.u8 ((msK y).a / (256 : Int) % (256 : Int)), AV.sint IntKind.u8 ((msK y).a % (256 : Int))]) (Classical.propDecidable _)) (.left (decide (List.map (fun (x : AV) => natOf [x]) [AV.sint IntKind.u8 (msK y).k, AV.sint IntKind.u8 ((msK y).f % (256 : Int)), AV.sint IntKind.u8 ((msK y).t % (256 : Int)), AV.sint IntKind.u8 ((msK y).v0 / (72057594037927936 : Int) % (256 : Int)), AV.sint IntKind.u8 ((msK y).v0 / (281474976710656 : Int) % (256 : Int)), AV.sint IntKind.u8 ((msK y).v0 / (1099511627776 : Int) % (256 : Int)), AV.sint IntKind.u8 ((msK y).v0 / (4294967296 : Int) % (256 : Int)), AV.sint IntKind.u8 ((msK y).v0 / (16777216 : Int) % (256 : Int)), AV.sint IntKind.u8 ((msK y).v0 / (65536 : Int) % (256 : Int)), AV.sint IntKind.u8 ((msK y).v0 / (256 : Int) % (256 : Int)), AV.sint IntKind.u8 ((msK y).v0 / (1 : Int) % (256 : Int)), AV.sint IntKind.u8 ((msK y).v1 / (72057594037927936 : Int) % (256 : Int)), AV.sint IntKind.u8 ((msK y).v1 / (281474976710656 : Int) % (256 : Int)), AV.sint IntKind.u8 ((msK y).v1 / (1099511627776 : Int) % (256 : Int)), AV.sint IntKind.u8 ((msK y).v1 / (4294967296 : Int) % (256 : Int)), AV.sint IntKind.u8 ((msK y).v1 / (16777216 : Int) % (256 : Int)), AV.sint IntKind.u8 ((msK y).v1 / (65536 : Int) % (256 : Int)), AV.sint IntKind.u8 ((msK y).v1 / (256 : Int) % (256 : Int)), AV.sint IntKind.u8 ((msK y).v1 / (1 : Int) % (256 : Int)), AV.sint IntKind.u8 ((msK y).v2 / (72057594037927936 : Int) % (256 : Int)), AV.sint IntKind.u8 ((msK y).v2 / (281474976710656 : Int) % (256 : Int)), AV.sint IntKind.u8 ((msK y).v2 / (1099511627776 : Int) % (256 : Int)), AV.sint IntKind.u8 ((msK y).v2 / (4294967296 : Int) % (256 : Int)), AV.sint IntKind.u8 ((msK y).v2 / (16777216 : Int) % (256 : Int)), AV.sint IntKind.u8 ((msK y).v2 / (65536 : Int) % (256 : Int)), AV.sint IntKind.u8 ((msK y).v2 / (256 : Int) % (256 : Int)), AV.sint IntKind.u8 ((msK y).v2 / (1 : Int) % (256 : Int)), AV.sint IntKind.u8 ((msK y).v3 / (72057594037927936 : Int) % (256 : Int)), AV.sint IntKind.u8 ((msK y).v3 / (281474976710656 : Int) % (256 : Int)), AV.sint IntKind.u8 ((msK y).v3 / (1099511627776 : Int) % (256 : Int)), AV.sint IntKind.u8 ((msK y).v3 / (4294967296 : Int) % (256 : Int)), AV.sint IntKind.u8 ((msK y).v3 / (16777216 : Int) % (256 : Int)), AV.sint IntKind.u8 ((msK y).v3 / (65536 : Int) % (256 : Int)), AV.sint IntKind.u8 ((msK y).v3 / (256 : Int) % (256 : Int)), AV.sint IntKind.u8 ((msK y).v3 / (1 : Int) % (256 : Int)), AV.sint IntKind.u8 ((msK y).v4 / (72057594037927936 : Int) % (256 : Int)), AV.sint IntKind.u8 ((msK y).v4 / (281474976710656 : Int) % (256 : Int)), AV.sint IntKind.u8 ((msK y).v4 / (1099511627776 : Int) % (256 : Int)), AV.sint IntKind.u8 ((msK y).v4 / (4294967296 : Int) % (256 : Int)), AV.sint IntKind.u8 ((msK y).v4 / (16777216 : Int) % (256 : Int)), AV.sint IntKind.u8 ((msK y).v4 / (65536 : Int) % (256 : Int)), AV.sint IntKind.u8 ((msK y).v4 / (256 : Int) % (256 : Int)), AV.sint IntKind.u8 ((msK y).v4 / (1 : Int) % (256 : Int)), AV.sint IntKind.u8 ((msK y).v5 / (72057594037927936 : Int) % (256 : Int)), AV.sint IntKind.u8 ((msK y).v5 / (281474976710656 : Int) % (256 : Int)), AV.sint IntKind.u8 ((msK y).v5 / (1099511627776 : Int) % (256 : Int)), AV.sint IntKind.u8 ((msK y).v5 / (4294967296 : Int) % (256 : Int)), AV.sint IntKind.u8 ((msK y).v5 / (16777216 : Int) % (256 : Int)), AV.sint IntKind.u8 ((msK y).v5 / (65536 : Int) % (256 : Int)), AV.sint IntKind.u8 ((msK y).v5 / (256 : Int) % (256 : Int)), AV.sint IntKind.u8 ((msK y).v5 / (1 : Int) % (256 : Int)), AV.sint IntKind.u8 ((msK y).n / (72057594037927936 : Int) % (256 : Int)), AV.sint IntKind.u8 ((msK y).n / (281474976710656 : Int) % (256 : Int)), AV.sint IntKind.u8 ((msK y).n / (1099511627776 : Int) % (256 : Int)), AV.sint IntKind.u8 ((msK y).n / (4294967296 : Int) % (256 : Int)), AV.sint IntKind.u8 ((msK y).n / (16777216 : Int) % (256 : Int)), AV.sint IntKind.u8 ((msK y).n / (65536 : Int) % (256 : Int)), AV.sint IntKind.u8 ((msK y).n / (256 : Int) % (256 : Int)), AV.sint IntKind.u8 ((msK y).n % (256 : Int)), AV.sint IntKind.u8 ((msK y).a / (72057594037927936 : Int) % (256 : Int)), AV.sint IntKind.u8 ((msK y).a / (281474976710656 : Int) % (256 : Int)), AV.sint IntKind.u8 ((msK y).a / (1099511627776 : Int) % (256 : Int)), AV.sint IntKind.u8 ((msK y).a / (4294967296 : Int) % (256 : Int)), AV.sint IntKind.u8 ((msK y).a / (16777216 : Int) % (256 : Int)), AV.sint IntKind.u8 ((msK y).a / (65536 : Int) % (256 : Int)), AV.sint IntKind.u8 ((msK y).a / (256 : Int) % (256 : Int)), AV.sint IntKind.u8 ((msK y).a % (256 : Int))] = bytesOf n (by8 y))) (.stop (Hd.call (27 : Nat) []) [] ([]))))))) (by kernel_rfl) ?_
      refine hold_leftD0 (Classical.byContradiction fun h10 => by exact h10 (all_by8 _ _)) ?_
      refine hold_leftD0 (Classical.byContradiction fun h10 => by exact h10 rfl) ?_
      refine hold_leftD0 (Classical.byContradiction fun h10 => by exact h10 ⟨rfl, rfl, rfl⟩) ?_
      refine hold_leftD0 (Classical.byContradiction fun h10 => by exact h10 (byteL_cast (l' := (msK y).ask.map cell8) (by kernel_rfl) (byteL_ask ms_k))) ?_
      refine hold_leftD0 (Classical.byContradiction fun h10 => by exact h10 (Eq.trans (by kernel_rfl) (ask_back iy))) ?_
      refine hold_stop (fun hd hb => ?_)
      refine ok_call0 hd works rfl ?_
      rintro x G ⟨rfl, rfl⟩
      refine ⟨rfl, fun g hg => (by cases hg), ?_⟩
      refine ok_sk (.stop []) (S := .stop (Hd.leaf (AV.bool Bool.true)) [] ([])) (by kernel_rfl) ?_
      refine hold_stop (fun hd hb => ?_)
      exact ok_leaf0 hd rfl ⟨rfl, rfl⟩
     refine ok_sk (.stop []) (S := .stop (Hd.call (27 : Nat) []) [] ([])) (by kernel_rfl) ?_
     refine hold_stop (fun hd hb => ?_)
     refine ok_call0 hd works rfl ?_
     rintro x G ⟨rfl, rfl⟩
     refine ⟨rfl, fun g hg => (by cases hg), ?_⟩
     refine ok_sk (.stop []) (S := .stop (Hd.leaf (AV.bool Bool.true)) [] ([])) (by kernel_rfl) ?_
     refine hold_stop (fun hd hb => ?_)
     exact ok_leaf0 hd rfl ⟨rfl, rfl⟩
    refine ok_sk (.stop []) (S := .stop (Hd.leaf (AV.bool Bool.false)) [] ([])) (by kernel_rfl) ?_
    refine hold_stop (fun hd hb => ?_)
    exact absurd ⟨rfl, q0.symm, fun j hj => by omega⟩ sm
   refine ok_sk (.l (.stop [])) (S := .left (decide ((0 : Int) < (↑((51 : Nat) + (91 : Nat) * q) : Int))) (.stop (Hd.leaf (AV.bool Bool.false)) [] ([]))) (by kernel_rfl) ?_
   refine hold_leftD0 (Classical.byContradiction fun h4 => by omega) ?_
   refine hold_stop (fun hd hb => ?_)
   exact absurd mp my
  refine ok_sk (.stop []) (S := .stop (Hd.call (30 : Nat) [AV.agg [AV.sint IntKind.u8 m.k, AV.sint IntKind.i64 m.f, AV.sint IntKind.i64 m.t, AV.sint IntKind.u64 m.v0, AV.sint IntKind.u64 m.v1, AV.sint IntKind.u64 m.v2, AV.sint IntKind.u64 m.v3, AV.sint IntKind.u64 m.v4, AV.sint IntKind.u64 m.v5, AV.data (14 : Nat) q fun (i : Nat) => (E i).row, AV.sint IntKind.u64 m.n, AV.sint IntKind.i64 m.a]]) [] ([])) (by kernel_rfl) ?_
  refine hold_stop (fun hd hb => ?_)
  refine ok_call0 hd (mmay m q E (by omega)) rfl ?_
  rintro x G ⟨rfl, ⟨rfl, my⟩ | ⟨rfl, my⟩⟩ <;> refine ⟨rfl, fun g hg => (by cases hg), ?_⟩
  ·
   refine ok_sk (.stop [1]) (S := .stop (Hd.call (28 : Nat) [AV.slice (1 : Nat) (0 : Nat) (67 : Nat) (67 : Nat) Bool.false]) [1] ([(Option.some (Blk.cells (1 : Nat) (Option.some (1 : Nat)) [AV.sint IntKind.u8 m.k, AV.sint IntKind.u8 (m.f % (256 : Int)), AV.sint IntKind.u8 (m.t % (256 : Int)), AV.sint IntKind.u8 (m.v0 / (72057594037927936 : Int) % (256 : Int)), AV.sint IntKind.u8 (m.v0 / (281474976710656 : Int) % (256 : Int)), AV.sint IntKind.u8 (m.v0 / (1099511627776 : Int) % (256 : Int)), AV.sint IntKind.u8 (m.v0 / (4294967296 : Int) % (256 : Int)), AV.sint IntKind.u8 (m.v0 / (16777216 : Int) % (256 : Int)), AV.sint IntKind.u8 (m.v0 / (65536 : Int) % (256 : Int)), AV.sint IntKind.u8 (m.v0 / (256 : Int) % (256 : Int)), AV.sint IntKind.u8 (m.v0 / (1 : Int) % (256 : Int)), AV.sint IntKind.u8 (m.v1 / (72057594037927936 : Int) % (256 : Int)), AV.sint IntKind.u8 (m.v1 / (281474976710656 : Int) % (256 : Int)), AV.sint IntKind.u8 (m.v1 / (1099511627776 : Int) % (256 : Int)), AV.sint IntKind.u8 (m.v1 / (4294967296 : Int) % (256 : Int)), AV.sint IntKind.u8 (m.v1 / (16777216 : Int) % (256 : Int)), AV.sint IntKind.u8 (m.v1 / (65536 : Int) % (256 : Int)), AV.sint IntKind.u8 (m.v1 / (256 : Int) % (256 : Int)), AV.sint IntKind.u8 (m.v1 / (1 : Int) % (256 : Int)), AV.sint IntKind.u8 (m.v2 / (72057594037927936 : Int) % (256 : Int)), AV.sint IntKind.u8 (m.v2 / (281474976710656 : Int) % (256 : Int)), AV.sint IntKind.u8 (m.v2 / (1099511627776 : Int) % (256 : Int)), AV.sint IntKind.u8 (m.v2 / (4294967296 : Int) % (256 : Int)), AV.sint IntKind.u8 (m.v2 / (16777216 : Int) % (256 : Int)), AV.sint IntKind.u8 (m.v2 / (65536 : Int) % (256 : Int)), AV.sint IntKind.u8 (m.v2 / (256 : Int) % (256 : Int)), AV.sint IntKind.u8 (m.v2 / (1 : Int) % (256 : Int)), AV.sint IntKind.u8 (m.v3 / (72057594037927936 : Int) % (256 : Int)), AV.sint IntKind.u8 (m.v3 / (281474976710656 : Int) % (256 : Int)), AV.sint IntKind.u8 (m.v3 / (1099511627776 : Int) % (256 : Int)), AV.sint IntKind.u8 (m.v3 / (4294967296 : Int) % (256 : Int)), AV.sint IntKind.u8 (m.v3 / (16777216 : Int) % (256 : Int)), AV.sint IntKind.u8 (m.v3 / (65536 : Int) % (256 : Int)), AV.sint IntKind.u8 (m.v3 / (256 : Int) % (256 : Int)), AV.sint IntKind.u8 (m.v3 / (1 : Int) % (256 : Int)), AV.sint IntKind.u8 (m.v4 / (72057594037927936 : Int) % (256 : Int)), AV.sint IntKind.u8 (m.v4 / (281474976710656 : Int) % (256 : Int)), AV.sint IntKind.u8 (m.v4 / (1099511627776 : Int) % (256 : Int)), AV.sint IntKind.u8 (m.v4 / (4294967296 : Int) % (256 : Int)), AV.sint IntKind.u8 (m.v4 / (16777216 : Int) % (256 : Int)), AV.sint IntKind.u8 (m.v4 / (65536 : Int) % (256 : Int)), AV.sint IntKind.u8 (m.v4 / (256 : Int) % (256 : Int)), AV.sint IntKind.u8 (m.v4 / (1 : Int) % (256 : Int)), AV.sint IntKind.u8 (m.v5 / (72057594037927936 : Int) % (256 : Int)), AV.sint IntKind.u8 (m.v5 / (281474976710656 : Int) % (256 : Int)), AV.sint IntKind.u8 (m.v5 / (1099511627776 : Int) % (256 : Int)), AV.sint IntKind.u8 (m.v5 / (4294967296 : Int) % (256 : Int)), AV.sint IntKind.u8 (m.v5 / (16777216 : Int) % (256 : Int)), AV.sint IntKind.u8 (m.v5 / (65536 : Int) % (256 : Int)), AV.sint IntKind.u8 (m.v5 / (256 : Int) % (256 : Int)), AV.sint IntKind.u8 (m.v5 / (1 : Int) % (256 : Int)), AV.sint IntKind.u8 (m.n / (72057594037927936 : Int) % (256 : Int)), AV.sint IntKind.u8 (m.n / (281474976710656 : Int) % (256 : Int)), AV.sint IntKind.u8 (m.n / (1099511627776 : Int) % (256 : Int)), AV.sint IntKind.u8 (m.n / (4294967296 : Int) % (256 : Int)), AV.sint IntKind.u8 (m.n / (16777216 : Int) % (256 : Int)), AV.sint IntKind.u8 (m.n / (65536 : Int) % (256 : Int)), AV.sint IntKind.u8 (m.n / (256 : Int) % (256 : Int)), AV.sint IntKind.u8 (m.n % (256 : Int)), AV.sint IntKind.u8 (m.a / (72057594037927936 : Int) % (256 : Int)), AV.sint IntKind.u8 (m.a / (281474976710656 : Int) % (256 : Int)), AV.sint IntKind.u8 (m.a / (1099511627776 : Int) % (256 : Int)), AV.sint IntKind.u8 (m.a / (4294967296 : Int) % (256 : Int)), AV.sint IntKind.u8 (m.a / (16777216 : Int) % (256 : Int)), AV.sint IntKind.u8 (m.a / (65536 : Int) % (256 : Int)), AV.sint IntKind.u8 (m.a / (256 : Int) % (256 : Int)), AV.sint IntKind.u8 (m.a % (256 : Int))]), Option.none)])) (by kernel_rfl) ?_
   refine hold_stop (fun hd hb => ?_)
   first
     | (refine ok_call0 hd (mget n y (by omega)) rfl ?_
        rintro x G (⟨q2, iy, rfl, rfl⟩ | ⟨iy, rfl, rfl⟩ | ⟨iy, rfl, rfl⟩ | ⟨rfl, rfl, no1, no2⟩) <;> first | refine ⟨rfl, fun g hg => (by rcases List.mem_singleton.1 hg with rfl; exact fun _ _ => rfl), ?_⟩ | refine ⟨rfl, fun g hg => (by cases hg), ?_⟩)
     | refine get_syn hd (look_seq hb) (by omega) hr hE mp mk (by omega) ?_ (fun q0 => ?_)
     | refine get_bad hd (look_seq hb) (by omega) (by omega) (by exact all_syn (by omega) _ _) (by omega) (by omega) ?_
     | refine get_bad hd (look_seq hb) (by omega) (by omega) (by exact all_glue0 (all_syn (by omega) _ _)) (by omega) (by omega) ?_
     | refine get_badC (n := 66) hd (look_cells hb) (by omega) (Nat.le_of_ble_eq_true (by kernel_rfl)) (by omega) (by exact byteL_cast (l' := m.ask.map cell8) (by kernel_rfl) (byteL_ask (by omega))) (by omega) (by omega) ?_
     | refine get_badC (n := 68) hd (look_cells hb) (by omega) (Nat.le_of_ble_eq_true (by kernel_rfl)) (by omega) (by exact byteL_cast (l' := m.ask.map cell8 ++ [.int .u8 0]) (by kernel_rfl) (byteL_app (byteL_ask (by omega)) byteL_zero)) (by omega) (by omega) ?_
     | refine get_ask hd (look_cells hb) (by kernel_rfl) (by omega) hr mp mk ?_
   refine ok_sk (.stop [1]) (S := .stop (Hd.call (28 : Nat) [AV.slice (1 : Nat) (0 : Nat) (66 : Nat) (67 : Nat) Bool.false]) [1] ([(Option.some (Blk.cells (1 : Nat) (Option.some (1 : Nat)) [AV.sint IntKind.u8 m.k, AV.sint IntKind.u8 (m.f % (256 : Int)), AV.sint IntKind.u8 (m.t % (256 : Int)), AV.sint IntKind.u8 (m.v0 / (72057594037927936 : Int) % (256 : Int)), AV.sint IntKind.u8 (m.v0 / (281474976710656 : Int) % (256 : Int)), AV.sint IntKind.u8 (m.v0 / (1099511627776 : Int) % (256 : Int)), AV.sint IntKind.u8 (m.v0 / (4294967296 : Int) % (256 : Int)), AV.sint IntKind.u8 (m.v0 / (16777216 : Int) % (256 : Int)), AV.sint IntKind.u8 (m.v0 / (65536 : Int) % (256 : Int)), AV.sint IntKind.u8 (m.v0 / (256 : Int) % (256 : Int)), AV.sint IntKind.u8 (m.v0 / (1 : Int) % (256 : Int)), AV.sint IntKind.u8 (m.v1 / (72057594037927936 : Int) % (256 : Int)), AV.sint IntKind.u8 (m.v1 / (281474976710656 : Int) % (256 : Int)), AV.sint IntKind.u8 (m.v1 / (1099511627776 : Int) % (256 : Int)), AV.sint IntKind.u8 (m.v1 / (4294967296 : Int) % (256 : Int)), AV.sint IntKind.u8 (m.v1 / (16777216 : Int) % (256 : Int)), AV.sint IntKind.u8 (m.v1 / (65536 : Int) % (256 : Int)), AV.sint IntKind.u8 (m.v1 / (256 : Int) % (256 : Int)), AV.sint IntKind.u8 (m.v1 / (1 : Int) % (256 : Int)), AV.sint IntKind.u8 (m.v2 / (72057594037927936 : Int) % (256 : Int)), AV.sint IntKind.u8 (m.v2 / (281474976710656 : Int) % (256 : Int)), AV.sint IntKind.u8 (m.v2 / (1099511627776 : Int) % (256 : Int)), AV.sint IntKind.u8 (m.v2 / (4294967296 : Int) % (256 : Int)), AV.sint IntKind.u8 (m.v2 / (16777216 : Int) % (256 : Int)), AV.sint IntKind.u8 (m.v2 / (65536 : Int) % (256 : Int)), AV.sint IntKind.u8 (m.v2 / (256 : Int) % (256 : Int)), AV.sint IntKind.u8 (m.v2 / (1 : Int) % (256 : Int)), AV.sint IntKind.u8 (m.v3 / (72057594037927936 : Int) % (256 : Int)), AV.sint IntKind.u8 (m.v3 / (281474976710656 : Int) % (256 : Int)), AV.sint IntKind.u8 (m.v3 / (1099511627776 : Int) % (256 : Int)), AV.sint IntKind.u8 (m.v3 / (4294967296 : Int) % (256 : Int)), AV.sint IntKind.u8 (m.v3 / (16777216 : Int) % (256 : Int)), AV.sint IntKind.u8 (m.v3 / (65536 : Int) % (256 : Int)), AV.sint IntKind.u8 (m.v3 / (256 : Int) % (256 : Int)), AV.sint IntKind.u8 (m.v3 / (1 : Int) % (256 : Int)), AV.sint IntKind.u8 (m.v4 / (72057594037927936 : Int) % (256 : Int)), AV.sint IntKind.u8 (m.v4 / (281474976710656 : Int) % (256 : Int)), AV.sint IntKind.u8 (m.v4 / (1099511627776 : Int) % (256 : Int)), AV.sint IntKind.u8 (m.v4 / (4294967296 : Int) % (256 : Int)), AV.sint IntKind.u8 (m.v4 / (16777216 : Int) % (256 : Int)), AV.sint IntKind.u8 (m.v4 / (65536 : Int) % (256 : Int)), AV.sint IntKind.u8 (m.v4 / (256 : Int) % (256 : Int)), AV.sint IntKind.u8 (m.v4 / (1 : Int) % (256 : Int)), AV.sint IntKind.u8 (m.v5 / (72057594037927936 : Int) % (256 : Int)), AV.sint IntKind.u8 (m.v5 / (281474976710656 : Int) % (256 : Int)), AV.sint IntKind.u8 (m.v5 / (1099511627776 : Int) % (256 : Int)), AV.sint IntKind.u8 (m.v5 / (4294967296 : Int) % (256 : Int)), AV.sint IntKind.u8 (m.v5 / (16777216 : Int) % (256 : Int)), AV.sint IntKind.u8 (m.v5 / (65536 : Int) % (256 : Int)), AV.sint IntKind.u8 (m.v5 / (256 : Int) % (256 : Int)), AV.sint IntKind.u8 (m.v5 / (1 : Int) % (256 : Int)), AV.sint IntKind.u8 (m.n / (72057594037927936 : Int) % (256 : Int)), AV.sint IntKind.u8 (m.n / (281474976710656 : Int) % (256 : Int)), AV.sint IntKind.u8 (m.n / (1099511627776 : Int) % (256 : Int)), AV.sint IntKind.u8 (m.n / (4294967296 : Int) % (256 : Int)), AV.sint IntKind.u8 (m.n / (16777216 : Int) % (256 : Int)), AV.sint IntKind.u8 (m.n / (65536 : Int) % (256 : Int)), AV.sint IntKind.u8 (m.n / (256 : Int) % (256 : Int)), AV.sint IntKind.u8 (m.n % (256 : Int)), AV.sint IntKind.u8 (m.a / (72057594037927936 : Int) % (256 : Int)), AV.sint IntKind.u8 (m.a / (281474976710656 : Int) % (256 : Int)), AV.sint IntKind.u8 (m.a / (1099511627776 : Int) % (256 : Int)), AV.sint IntKind.u8 (m.a / (4294967296 : Int) % (256 : Int)), AV.sint IntKind.u8 (m.a / (16777216 : Int) % (256 : Int)), AV.sint IntKind.u8 (m.a / (65536 : Int) % (256 : Int)), AV.sint IntKind.u8 (m.a / (256 : Int) % (256 : Int)), AV.sint IntKind.u8 (m.a % (256 : Int))]), Option.none)])) (by kernel_rfl) ?_
   refine hold_stop (fun hd hb => ?_)
   first
     | (refine ok_call0 hd (mget n y (by omega)) rfl ?_
        rintro x G (⟨q2, iy, rfl, rfl⟩ | ⟨iy, rfl, rfl⟩ | ⟨iy, rfl, rfl⟩ | ⟨rfl, rfl, no1, no2⟩) <;> first | refine ⟨rfl, fun g hg => (by rcases List.mem_singleton.1 hg with rfl; exact fun _ _ => rfl), ?_⟩ | refine ⟨rfl, fun g hg => (by cases hg), ?_⟩)
     | refine get_syn hd (look_seq hb) (by omega) hr hE mp mk (by omega) ?_ (fun q0 => ?_)
     | refine get_bad hd (look_seq hb) (by omega) (by omega) (by exact all_syn (by omega) _ _) (by omega) (by omega) ?_
     | refine get_bad hd (look_seq hb) (by omega) (by omega) (by exact all_glue0 (all_syn (by omega) _ _)) (by omega) (by omega) ?_
     | refine get_badC (n := 66) hd (look_cells hb) (by omega) (Nat.le_of_ble_eq_true (by kernel_rfl)) (by omega) (by exact byteL_cast (l' := m.ask.map cell8) (by kernel_rfl) (byteL_ask (by omega))) (by omega) (by omega) ?_
     | refine get_badC (n := 68) hd (look_cells hb) (by omega) (Nat.le_of_ble_eq_true (by kernel_rfl)) (by omega) (by exact byteL_cast (l' := m.ask.map cell8 ++ [.int .u8 0]) (by kernel_rfl) (byteL_app (byteL_ask (by omega)) byteL_zero)) (by omega) (by omega) ?_
     | refine get_ask hd (look_cells hb) (by kernel_rfl) (by omega) hr mp mk ?_
   refine ok_sk (.stop [7]) (S := .stop (Hd.call (28 : Nat) [AV.slice (7 : Nat) (0 : Nat) (68 : Nat) (68 : Nat) Bool.false]) [7] ([(Option.some (Blk.cells (5 : Nat) (Option.some (1 : Nat)) [AV.sint IntKind.u8 m.k, AV.sint IntKind.u8 (m.f % (256 : Int)), AV.sint IntKind.u8 (m.t % (256 : Int)), AV.sint IntKind.u8 (m.v0 / (72057594037927936 : Int) % (256 : Int)), AV.sint IntKind.u8 (m.v0 / (281474976710656 : Int) % (256 : Int)), AV.sint IntKind.u8 (m.v0 / (1099511627776 : Int) % (256 : Int)), AV.sint IntKind.u8 (m.v0 / (4294967296 : Int) % (256 : Int)), AV.sint IntKind.u8 (m.v0 / (16777216 : Int) % (256 : Int)), AV.sint IntKind.u8 (m.v0 / (65536 : Int) % (256 : Int)), AV.sint IntKind.u8 (m.v0 / (256 : Int) % (256 : Int)), AV.sint IntKind.u8 (m.v0 / (1 : Int) % (256 : Int)), AV.sint IntKind.u8 (m.v1 / (72057594037927936 : Int) % (256 : Int)), AV.sint IntKind.u8 (m.v1 / (281474976710656 : Int) % (256 : Int)), AV.sint IntKind.u8 (m.v1 / (1099511627776 : Int) % (256 : Int)), AV.sint IntKind.u8 (m.v1 / (4294967296 : Int) % (256 : Int)), AV.sint IntKind.u8 (m.v1 / (16777216 : Int) % (256 : Int)), AV.sint IntKind.u8 (m.v1 / (65536 : Int) % (256 : Int)), AV.sint IntKind.u8 (m.v1 / (256 : Int) % (256 : Int)), AV.sint IntKind.u8 (m.v1 / (1 : Int) % (256 : Int)), AV.sint IntKind.u8 (m.v2 / (72057594037927936 : Int) % (256 : Int)), AV.sint IntKind.u8 (m.v2 / (281474976710656 : Int) % (256 : Int)), AV.sint IntKind.u8 (m.v2 / (1099511627776 : Int) % (256 : Int)), AV.sint IntKind.u8 (m.v2 / (4294967296 : Int) % (256 : Int)), AV.sint IntKind.u8 (m.v2 / (16777216 : Int) % (256 : Int)), AV.sint IntKind.u8 (m.v2 / (65536 : Int) % (256 : Int)), AV.sint IntKind.u8 (m.v2 / (256 : Int) % (256 : Int)), AV.sint IntKind.u8 (m.v2 / (1 : Int) % (256 : Int)), AV.sint IntKind.u8 (m.v3 / (72057594037927936 : Int) % (256 : Int)), AV.sint IntKind.u8 (m.v3 / (281474976710656 : Int) % (256 : Int)), AV.sint IntKind.u8 (m.v3 / (1099511627776 : Int) % (256 : Int)), AV.sint IntKind.u8 (m.v3 / (4294967296 : Int) % (256 : Int)), AV.sint IntKind.u8 (m.v3 / (16777216 : Int) % (256 : Int)), AV.sint IntKind.u8 (m.v3 / (65536 : Int) % (256 : Int)), AV.sint IntKind.u8 (m.v3 / (256 : Int) % (256 : Int)), AV.sint IntKind.u8 (m.v3 / (1 : Int) % (256 : Int)), AV.sint IntKind.u8 (m.v4 / (72057594037927936 : Int) % (256 : Int)), AV.sint IntKind.u8 (m.v4 / (281474976710656 : Int) % (256 : Int)), AV.sint IntKind.u8 (m.v4 / (1099511627776 : Int) % (256 : Int)), AV.sint IntKind.u8 (m.v4 / (4294967296 : Int) % (256 : Int)), AV.sint IntKind.u8 (m.v4 / (16777216 : Int) % (256 : Int)), AV.sint IntKind.u8 (m.v4 / (65536 : Int) % (256 : Int)), AV.sint IntKind.u8 (m.v4 / (256 : Int) % (256 : Int)), AV.sint IntKind.u8 (m.v4 / (1 : Int) % (256 : Int)), AV.sint IntKind.u8 (m.v5 / (72057594037927936 : Int) % (256 : Int)), AV.sint IntKind.u8 (m.v5 / (281474976710656 : Int) % (256 : Int)), AV.sint IntKind.u8 (m.v5 / (1099511627776 : Int) % (256 : Int)), AV.sint IntKind.u8 (m.v5 / (4294967296 : Int) % (256 : Int)), AV.sint IntKind.u8 (m.v5 / (16777216 : Int) % (256 : Int)), AV.sint IntKind.u8 (m.v5 / (65536 : Int) % (256 : Int)), AV.sint IntKind.u8 (m.v5 / (256 : Int) % (256 : Int)), AV.sint IntKind.u8 (m.v5 / (1 : Int) % (256 : Int)), AV.sint IntKind.u8 (m.n / (72057594037927936 : Int) % (256 : Int)), AV.sint IntKind.u8 (m.n / (281474976710656 : Int) % (256 : Int)), AV.sint IntKind.u8 (m.n / (1099511627776 : Int) % (256 : Int)), AV.sint IntKind.u8 (m.n / (4294967296 : Int) % (256 : Int)), AV.sint IntKind.u8 (m.n / (16777216 : Int) % (256 : Int)), AV.sint IntKind.u8 (m.n / (65536 : Int) % (256 : Int)), AV.sint IntKind.u8 (m.n / (256 : Int) % (256 : Int)), AV.sint IntKind.u8 (m.n % (256 : Int)), AV.sint IntKind.u8 (m.a / (72057594037927936 : Int) % (256 : Int)), AV.sint IntKind.u8 (m.a / (281474976710656 : Int) % (256 : Int)), AV.sint IntKind.u8 (m.a / (1099511627776 : Int) % (256 : Int)), AV.sint IntKind.u8 (m.a / (4294967296 : Int) % (256 : Int)), AV.sint IntKind.u8 (m.a / (16777216 : Int) % (256 : Int)), AV.sint IntKind.u8 (m.a / (65536 : Int) % (256 : Int)), AV.sint IntKind.u8 (m.a / (256 : Int) % (256 : Int)), AV.sint IntKind.u8 (m.a % (256 : Int)), AV.int IntKind.u8 (0 : Int)]), Option.none)])) (by kernel_rfl) ?_
   refine hold_stop (fun hd hb => ?_)
   first
     | (refine ok_call0 hd (mget n y (by omega)) rfl ?_
        rintro x G (⟨q2, iy, rfl, rfl⟩ | ⟨iy, rfl, rfl⟩ | ⟨iy, rfl, rfl⟩ | ⟨rfl, rfl, no1, no2⟩) <;> first | refine ⟨rfl, fun g hg => (by rcases List.mem_singleton.1 hg with rfl; exact fun _ _ => rfl), ?_⟩ | refine ⟨rfl, fun g hg => (by cases hg), ?_⟩)
     | refine get_syn hd (look_seq hb) (by omega) hr hE mp mk (by omega) ?_ (fun q0 => ?_)
     | refine get_bad hd (look_seq hb) (by omega) (by omega) (by exact all_syn (by omega) _ _) (by omega) (by omega) ?_
     | refine get_bad hd (look_seq hb) (by omega) (by omega) (by exact all_glue0 (all_syn (by omega) _ _)) (by omega) (by omega) ?_
     | refine get_badC (n := 66) hd (look_cells hb) (by omega) (Nat.le_of_ble_eq_true (by kernel_rfl)) (by omega) (by exact byteL_cast (l' := m.ask.map cell8) (by kernel_rfl) (byteL_ask (by omega))) (by omega) (by omega) ?_
     | refine get_badC (n := 68) hd (look_cells hb) (by omega) (Nat.le_of_ble_eq_true (by kernel_rfl)) (by omega) (by exact byteL_cast (l' := m.ask.map cell8 ++ [.int .u8 0]) (by kernel_rfl) (byteL_app (byteL_ask (by omega)) byteL_zero)) (by omega) (by omega) ?_
     | refine get_ask hd (look_cells hb) (by kernel_rfl) (by omega) hr mp mk ?_
   refine ok_sk (.stop []) (S := .stop (Hd.call (34 : Nat) [AV.agg [AV.sint IntKind.u8 m.k, AV.sint IntKind.i64 m.f, AV.sint IntKind.i64 m.t, AV.sint IntKind.u64 m.v0, AV.sint IntKind.u64 m.v1, AV.sint IntKind.u64 m.v2, AV.sint IntKind.u64 m.v3, AV.sint IntKind.u64 m.v4, AV.sint IntKind.u64 m.v5, AV.nilSlice, AV.sint IntKind.u64 m.n, AV.sint IntKind.i64 m.a], AV.agg [AV.sint IntKind.u8 m.k, AV.sint IntKind.i64 m.f, AV.sint IntKind.i64 m.t, AV.sint IntKind.u64 m.v0, AV.sint IntKind.u64 m.v1, AV.sint IntKind.u64 m.v2, AV.sint IntKind.u64 m.v3, AV.sint IntKind.u64 m.v4, AV.sint IntKind.u64 m.v5, AV.data (14 : Nat) q fun (i : Nat) => (E i).row, AV.sint IntKind.u64 m.n, AV.sint IntKind.i64 m.a]]) [] ([])) (by kernel_rfl) ?_
   refine hold_stop (fun hd hb => ?_)
   first
     | (refine ok_call hd (msame m m q q (msE (synN m E)) E (by omega) (by omega)) ⟨(vrow (m := m) (d := evs q (msE (synN m E))) (by exact ⟨rfl, q, _, look_seq hb, Nat.le_refl _, fun i hi => ⟨rfl, rfl⟩⟩) (by exact ⟨rfl, rfl⟩) (by exact ⟨rfl, rfl⟩)).1, (views_self _ (by exact rfl))⟩ ?_
        rintro x G ⟨rfl, ⟨rfl, sm⟩ | ⟨rfl, sm⟩⟩ <;> refine ⟨rfl, fun g hg => (by cases hg), ?_⟩)
     | (refine ok_call hd (msame m m 0 q (msE (synN m E)) E (by omega) (by omega)) ⟨(vrow (m := m) (d := evs 0 (msE (synN m E))) (by exact rfl) (by exact ⟨rfl, rfl⟩) (by exact ⟨rfl, rfl⟩)).1, (views_self _ (by exact rfl))⟩ ?_
        rintro x G ⟨rfl, ⟨rfl, sm⟩ | ⟨rfl, sm⟩⟩ <;> refine ⟨rfl, fun g hg => (by cases hg), ?_⟩)
   ·
    refine ok_sk (.stop []) (S := .stop (Hd.call (28 : Nat) [AV.data (1 : Nat) n (by8 y)]) [] ([])) (by kernel_rfl) ?_
    refine hold_stop (fun hd hb => ?_)
    first
      | (refine ok_call0 hd (mget n y (by omega)) rfl ?_
         rintro x G (⟨q2, iy, rfl, rfl⟩ | ⟨iy, rfl, rfl⟩ | ⟨iy, rfl, rfl⟩ | ⟨rfl, rfl, no1, no2⟩) <;> first | refine ⟨rfl, fun g hg => (by rcases List.mem_singleton.1 hg with rfl; exact fun _ _ => rfl), ?_⟩ | refine ⟨rfl, fun g hg => (by cases hg), ?_⟩)
      | refine get_syn hd (look_seq hb) (by omega) hr hE mp mk (by omega) ?_ (fun q0 => ?_)
      | refine get_bad hd (look_seq hb) (by omega) (by omega) (by exact all_syn (by omega) _ _) (by omega) (by omega) ?_
      | refine get_bad hd (look_seq hb) (by omega) (by omega) (by exact all_glue0 (all_syn (by omega) _ _)) (by omega) (by omega) ?_
      | refine get_badC (n := 66) hd (look_cells hb) (by omega) (Nat.le_of_ble_eq_true (by kernel_rfl)) (by omega) (by exact byteL_cast (l' := m.ask.map cell8) (by kernel_rfl) (byteL_ask (by omega))) (by omega) (by omega) ?_
      | refine get_badC (n := 68) hd (look_cells hb) (by omega) (Nat.le_of_ble_eq_true (by kernel_rfl)) (by omega) (by exact byteL_cast (l' := m.ask.map cell8 ++ [.int .u8 0]) (by kernel_rfl) (byteL_app (byteL_ask (by omega)) byteL_zero)) (by omega) (by omega) ?_
      | refine get_ask hd (look_cells hb) (by kernel_rfl) (by omega) hr mp mk ?_
    ·
     refine ok_sk (.l (.stop [9])) (S := .left (@decide (AllBytes n (by8 y)) (Classical.propDecidable _)) (.stop (Hd.call (32 : Nat) [AV.agg [AV.sint IntKind.u8 (msS y).k, AV.sint IntKind.i64 (msS y).f, AV.sint IntKind.i64 (msS y).t, AV.sint IntKind.u64 (msS y).v0, AV.sint IntKind.u64 (msS y).v1, AV.sint IntKind.u64 (msS y).v2, AV.sint IntKind.u64 (msS y).v3, AV.sint IntKind.u64 (msS y).v4, AV.sint IntKind.u64 (msS y).v5, AV.gsl (9 : Nat) q2, AV.sint IntKind.u64 (msS y).n, AV.sint IntKind.i64 (msS y).a]]) [9] ([(Option.some (Blk.seq (9 : Nat) (14 : Nat) q2 fun (j : Nat) => (evAt ((91 : Nat) * j) fun (i : Nat) => y ((51 : Nat) + i)).row), Option.some ((14 : Nat), q2, fun (j : Nat) => (evAt ((91 : Nat) * j) fun (i : Nat) => y ((51 : Nat) + i)).row))]))) (by kernel_rfl) ?_
     refine hold_leftD0 (Classical.byContradiction fun h9 => by exact h9 (all_by8 _ _)) ?_
     refine hold_stop (fun hd hb => ?_)
     first
       | (refine ok_call0 hd (mput m q E (by omega) hr hE) rfl ?_
          rintro x G (⟨rfl, rfl, mp⟩ | ⟨mk, mp, rfl, rfl⟩ | ⟨mk, mp, rfl, rfl⟩) <;> first | refine ⟨rfl, fun g hg => (by rcases List.mem_singleton.1 hg with rfl; exact gdf_syn _ _ _), ?_⟩ | refine ⟨rfl, fun g hg => (by rcases List.mem_singleton.1 hg with rfl; exact rfl), ?_⟩ | refine ⟨rfl, fun g hg => (by cases hg), ?_⟩)
       | refine put_syn y hd (look_seq hb) iy (by omega) ?_
       | refine put_syn0 y hd iy (by omega) ?_
       | refine put_ask y hd iy ?_
     refine ok_sk (.l (.l (.l (.l (.l (.stop [])))))) (S := .left (@decide (AllBytes n (by8 y)) (Classical.propDecidable _)) (.left (decide (bytesOf n (by8 y) = bytesOf n (by8 y))) (.left (@decide ((1 : Nat) = (1 : Nat) ∧ n = n ∧ by8 y = by8 y) (Classical.propDecidable _)) (.left (@decide ((51 : Nat) + (91 : Nat) * q2 ≤ (51 : Nat) + (91 : Nat) * q2 ∧ AllBytes ((51 : Nat) + (91 : Nat) * q2) (synY { k := (↑(y (0 : Nat) % (256 : Nat)) : Int), f := (↑(y (1 : Nat) % (256 : Nat)) : Int), t := (↑(y (2 : Nat) % (256 : Nat)) : Int), v0 := n8 fun (i : Nat) => y ((3 : Nat) + ((0 : Nat) + i)), v1 := n8 fun (i : Nat) => y ((3 : Nat) + ((8 : Nat) + i)), v2 := n8 fun (i : Nat) => y ((3 : Nat) + ((16 : Nat) + i)), v3 := n8 fun (i : Nat) => y ((3 : Nat) + ((24 : Nat) + i)), v4 := n8 fun (i : Nat) => y ((3 : Nat) + ((32 : Nat) + i)), v5 := n8 fun (i : Nat) => y ((3 : Nat) + ((40 : Nat) + i)), n := (0 : Int), a := (0 : Int) } fun (j : Nat) => evAt ((91 : Nat) * j) fun (i : Nat) => y ((51 : Nat) + i))) (Classical.propDecidable _)) (.left (decide (bytesOf ((51 : Nat) + (91 : Nat) * q2) (synY { k := (↑(y (0 : Nat) % (256 : Nat)) : Int), f := (↑(y (1 : Nat) % (256 : Nat)) : Int), t := (↑(y (2 : Nat) % (256 : Nat)) : Int), v0 := n8 fun (i : Nat) => y ((3 : Nat) + ((0 : Nat) + i)), v1 := n8 fun (i : Nat) => y ((3 : Nat) + ((8 : Nat) + i)), v2 := n8 fun (i : Nat) => y ((3 : Nat) + ((16 : Nat) + i)), v3 := n8 fun (i : Nat) => y ((3 : Nat) + ((24 : Nat) + i)), v4 := n8 fun (i : Nat) => y ((3 : Nat) + ((32 : Nat) + i)), v5 := n8 fun (i : Nat) => y ((3 : Nat) + ((40 : Nat) + i)), n := (0 : Int), a := (0 : Int) } fun (j : Nat) => evAt ((91 : Nat) * j) fun (i : Nat) => y ((51 : Nat) + i)) = bytesOf n (by8 y))) (.stop (Hd.call (27 : Nat) []) [] ([]))))))) (by kernel_rfl) ?_
     refine hold_leftD0 (Classical.byContradiction fun h10 => by exact h10 (all_by8 _ _)) ?_
     refine hold_leftD0 (Classical.byContradiction fun h10 => by exact h10 rfl) ?_
     refine hold_leftD0 (Classical.byContradiction fun h10 => by exact h10 ⟨rfl, rfl, rfl⟩) ?_
     refine hold_leftD0 (Classical.byContradiction fun h10 => by exact h10 ⟨Nat.le_refl _, all_syn ms_k _ _⟩) ?_
     refine hold_leftD0 (Classical.byContradiction fun h10 => by exact h10 (syn_back iy)) ?_
     refine hold_stop (fun hd hb => ?_)
     refine ok_call0 hd works rfl ?_
     rintro x G ⟨rfl, rfl⟩
     refine ⟨rfl, fun g hg => (by cases hg), ?_⟩
     refine ok_sk (.stop []) (S := .stop (Hd.leaf (AV.bool Bool.true)) [] ([])) (by kernel_rfl) ?_
     refine hold_stop (fun hd hb => ?_)
     exact ok_leaf0 hd rfl ⟨rfl, rfl⟩
    ·
     refine ok_sk (.l (.stop [])) (S := .left (@decide (AllBytes n (by8 y)) (Classical.propDecidable _)) (.stop (Hd.call (32 : Nat) [AV.agg [AV.sint IntKind.u8 (msS y).k, AV.sint IntKind.i64 (msS y).f, AV.sint IntKind.i64 (msS y).t, AV.sint IntKind.u64 (msS y).v0, AV.sint IntKind.u64 (msS y).v1, AV.sint IntKind.u64 (msS y).v2, AV.sint IntKind.u64 (msS y).v3, AV.sint IntKind.u64 (msS y).v4, AV.sint IntKind.u64 (msS y).v5, AV.nilSlice, AV.sint IntKind.u64 (msS y).n, AV.sint IntKind.i64 (msS y).a]]) [] ([]))) (by kernel_rfl) ?_
     refine hold_leftD0 (Classical.byContradiction fun h9 => by exact h9 (all_by8 _ _)) ?_
     refine hold_stop (fun hd hb => ?_)
     first
       | (refine ok_call0 hd (mput m q E (by omega) hr hE) rfl ?_
          rintro x G (⟨rfl, rfl, mp⟩ | ⟨mk, mp, rfl, rfl⟩ | ⟨mk, mp, rfl, rfl⟩) <;> first | refine ⟨rfl, fun g hg => (by rcases List.mem_singleton.1 hg with rfl; exact gdf_syn _ _ _), ?_⟩ | refine ⟨rfl, fun g hg => (by rcases List.mem_singleton.1 hg with rfl; exact rfl), ?_⟩ | refine ⟨rfl, fun g hg => (by cases hg), ?_⟩)
       | refine put_syn y hd (look_seq hb) iy (by omega) ?_
       | refine put_syn0 y hd iy (by omega) ?_
       | refine put_ask y hd iy ?_
     refine ok_sk (.l (.l (.l (.l (.l (.stop [])))))) (S := .left (@decide (AllBytes n (by8 y)) (Classical.propDecidable _)) (.left (decide (bytesOf n (by8 y) = bytesOf n (by8 y))) (.left (@decide ((1 : Nat) = (1 : Nat) ∧ n = n ∧ by8 y = by8 y) (Classical.propDecidable _)) (.left (@decide ((51 : Nat) ≤ (51 : Nat) ∧ AllBytes (51 : Nat) (synY { k := (↑(y (0 : Nat) % (256 : Nat)) : Int), f := (↑(y (1 : Nat) % (256 : Nat)) : Int), t := (↑(y (2 : Nat) % (256 : Nat)) : Int), v0 := n8 fun (i : Nat) => y ((3 : Nat) + ((0 : Nat) + i)), v1 := n8 fun (i : Nat) => y ((3 : Nat) + ((8 : Nat) + i)), v2 := n8 fun (i : Nat) => y ((3 : Nat) + ((16 : Nat) + i)), v3 := n8 fun (i : Nat) => y ((3 : Nat) + ((24 : Nat) + i)), v4 := n8 fun (i : Nat) => y ((3 : Nat) + ((32 : Nat) + i)), v5 := n8 fun (i : Nat) => y ((3 : Nat) + ((40 : Nat) + i)), n := (0 : Int), a := (0 : Int) } fun (j : Nat) => evAt ((91 : Nat) * j) fun (i : Nat) => y ((51 : Nat) + i))) (Classical.propDecidable _)) (.left (decide (bytesOf (51 : Nat) (synY { k := (↑(y (0 : Nat) % (256 : Nat)) : Int), f := (↑(y (1 : Nat) % (256 : Nat)) : Int), t := (↑(y (2 : Nat) % (256 : Nat)) : Int), v0 := n8 fun (i : Nat) => y ((3 : Nat) + ((0 : Nat) + i)), v1 := n8 fun (i : Nat) => y ((3 : Nat) + ((8 : Nat) + i)), v2 := n8 fun (i : Nat) => y ((3 : Nat) + ((16 : Nat) + i)), v3 := n8 fun (i : Nat) => y ((3 : Nat) + ((24 : Nat) + i)), v4 := n8 fun (i : Nat) => y ((3 : Nat) + ((32 : Nat) + i)), v5 := n8 fun (i : Nat) => y ((3 : Nat) + ((40 : Nat) + i)), n := (0 : Int), a := (0 : Int) } fun (j : Nat) => evAt ((91 : Nat) * j) fun (i : Nat) => y ((51 : Nat) + i)) = bytesOf n (by8 y))) (.stop (Hd.call (27 : Nat) []) [] ([]))))))) (by kernel_rfl) ?_
     refine hold_leftD0 (Classical.byContradiction fun h10 => by exact h10 (all_by8 _ _)) ?_
     refine hold_leftD0 (Classical.byContradiction fun h10 => by exact h10 rfl) ?_
     refine hold_leftD0 (Classical.byContradiction fun h10 => by exact h10 ⟨rfl, rfl, rfl⟩) ?_
     refine hold_leftD0 (Classical.byContradiction fun h10 => by exact h10 ⟨Nat.le_refl _, all_syn ms_k _ _⟩) ?_
     refine hold_leftD0 (Classical.byContradiction fun h10 => by exact h10 (syn_back iy)) ?_
     refine hold_stop (fun hd hb => ?_)
     refine ok_call0 hd works rfl ?_
     rintro x G ⟨rfl, rfl⟩
     refine ⟨rfl, fun g hg => (by cases hg), ?_⟩
     refine ok_sk (.stop []) (S := .stop (Hd.leaf (AV.bool Bool.true)) [] ([])) (by kernel_rfl) ?_
     refine hold_stop (fun hd hb => ?_)
     exact ok_leaf0 hd rfl ⟨rfl, rfl⟩
    ·
     refine ok_sk (.l (.stop [])) (S := .left (@decide (AllBytes n (by8 y)) (Classical.propDecidable _)) (.stop (Hd.call (32 : Nat) [AV.agg [AV.sint IntKind.u8 (msK y).k, AV.sint IntKind.i64 (msK y).f, AV.sint IntKind.i64 (msK y).t, AV.sint IntKind.u64 (msK y).v0, AV.sint IntKind.u64 (msK y).v1, AV.sint IntKind.u64 (msK y).v2, AV.sint IntKind.u64 (msK y).v3, AV.sint IntKind.u64 (msK y).v4, AV.sint IntKind.u64 (msK y).v5, AV.nilSlice, AV.sint IntKind.u64 (msK y).n, AV.sint IntKind.i64 (msK y).a]]) [] ([]))) (by kernel_rfl) ?_
     refine hold_leftD0 (Classical.byContradiction fun h9 => by exact h9 (all_by8 _ _)) ?_
     refine hold_stop (fun hd hb => ?_)
     first
       | (refine ok_call0 hd (mput m q E (by omega) hr hE) rfl ?_
          rintro x G (⟨rfl, rfl, mp⟩ | ⟨mk, mp, rfl, rfl⟩ | ⟨mk, mp, rfl, rfl⟩) <;> first | refine ⟨rfl, fun g hg => (by rcases List.mem_singleton.1 hg with rfl; exact gdf_syn _ _ _), ?_⟩ | refine ⟨rfl, fun g hg => (by rcases List.mem_singleton.1 hg with rfl; exact rfl), ?_⟩ | refine ⟨rfl, fun g hg => (by cases hg), ?_⟩)
       | refine put_syn y hd (look_seq hb) iy (by omega) ?_
       | refine put_syn0 y hd iy (by omega) ?_
       | refine put_ask y hd iy ?_
     refine ok_sk (.l (.l (.l (.l (.l (.stop [])))))) (S := .left (@decide (AllBytes n (by8 y)) (Classical.propDecidable _)) (.left (decide (bytesOf n (by8 y) = bytesOf n (by8 y))) (.left (@decide ((1 : Nat) = (1 : Nat) ∧ n = n ∧ by8 y = by8 y) (Classical.propDecidable _)) (.left (@decide (ByteL [AV.sint IntKind.u8 (msK y).k, AV.sint IntKind.u8 ((msK y).f % (256 : Int)), AV.sint IntKind.u8 ((msK y).t % (256 : Int)), AV.sint IntKind.u8 ((msK y).v0 / (72057594037927936 : Int) % (256 : Int)), AV.sint IntKind.u8 ((msK y).v0 / (281474976710656 : Int) % (256 : Int)), AV.sint IntKind.u8 ((msK y).v0 / (1099511627776 : Int) % (256 : Int)), AV.sint IntKind.u8 ((msK y).v0 / (4294967296 : Int) % (256 : Int)), AV.sint IntKind.u8 ((msK y).v0 / (16777216 : Int) % (256 : Int)), AV.sint IntKind.u8 ((msK y).v0 / (65536 : Int) % (256 : Int)), AV.sint IntKind.u8 ((msK y).v0 / (256 : Int) % (256 : Int)), AV.sint IntKind.u8 ((msK y).v0 / (1 : Int) % (256 : Int)), AV.sint IntKind.u8 ((msK y).v1 / (72057594037927936 : Int) % (256 : Int)), AV.sint IntKind.u8 ((msK y).v1 / (281474976710656 : Int) % (256 : Int)), AV.sint IntKind.u8 ((msK y).v1 / (1099511627776 : Int) % (256 : Int)), AV.sint IntKind.u8 ((msK y).v1 / (4294967296 : Int) % (256 : Int)), AV.sint IntKind.u8 ((msK y).v1 / (16777216 : Int) % (256 : Int)), AV.sint IntKind.u8 ((msK y).v1 / (65536 : Int) % (256 : Int)), AV.sint IntKind.u8 ((msK y).v1 / (256 : Int) % (256 : Int)), AV.sint IntKind.u8 ((msK y).v1 / (1 : Int) % (256 : Int)), AV.sint IntKind.u8 ((msK y).v2 / (72057594037927936 : Int) % (256 : Int)), AV.sint IntKind.u8 ((msK y).v2 / (281474976710656 : Int) % (256 : Int)), AV.sint IntKind.u8 ((msK y).v2 / (1099511627776 : Int) % (256 : Int)), AV.sint IntKind.u8 ((msK y).v2 / (4294967296 : Int) % (256 : Int)), AV.sint IntKind.u8 ((msK y).v2 / (16777216 : Int) % (256 : Int)), AV.sint IntKind.u8 ((msK y).v2 / (65536 : Int) % (256 : Int)), AV.sint IntKind.u8 ((msK y).v2 / (256 : Int) % (256 : Int)), AV.sint IntKind.u8 ((msK y).v2 / (1 : Int) % (256 : Int)), AV.sint IntKind.u8 ((msK y).v3 / (72057594037927936 : Int) % (256 : Int)), AV.sint IntKind.u8 ((msK y).v3 / (281474976710656 : Int) % (256 : Int)), AV.sint IntKind.u8 ((msK y).v3 / (1099511627776 : Int) % (256 : Int)), AV.sint IntKind.u8 ((msK y).v3 / (4294967296 : Int) % (256 : Int)), AV.sint IntKind.u8 ((msK y).v3 / (16777216 : Int) % (256 : Int)), AV.sint IntKind.u8 ((msK y).v3 / (65536 : Int) % (256 : Int)), AV.sint IntKind.u8 ((msK y).v3 / (256 : Int) % (256 : Int)), AV.sint IntKind.u8 ((msK y).v3 / (1 : Int) % (256 : Int)), AV.sint IntKind.u8 ((msK y).v4 / (72057594037927936 : Int) % (256 : Int)), AV.sint IntKind.u8 ((msK y).v4 / (281474976710656 : Int) % (256 : Int)), AV.sint IntKind.u8 ((msK y).v4 / (1099511627776 : Int) % (256 : Int)), AV.sint IntKind.u8 ((msK y).v4 / (4294967296 : Int) % (256 : Int)), AV.sint IntKind.u8 ((msK y).v4 / (16777216 : Int) % (256 : Int)), AV.sint IntKind.u8 ((msK y).v4 / (65536 : Int) % (256 : Int)), AV.sint IntKind.u8 ((msK y).v4 / (256 : Int) % (256 : Int)), AV.sint IntKind.u8 ((msK y).v4 / (1 : Int) % (256 : Int)), AV.sint IntKind.u8 ((msK y).v5 / (72057594037927936 : Int) % (256 : Int)), AV.sint IntKind.u8 ((msK y).v5 / (281474976710656 : Int) % (256 : Int)), AV.sint IntKind.u8 ((msK y).v5 / (1099511627776 : Int) % (256 : Int)), AV.sint IntKind.u8 ((msK y).v5 / (4294967296 : Int) % (256 : Int)), AV.sint IntKind.u8 ((msK y).v5 / (16777216 : Int) % (256 : Int)), AV.sint IntKind.u8 ((msK y).v5 / (65536 : Int) % (256 : Int)), AV.sint IntKind.u8 ((msK y).v5 / (256 : Int) % (256 : Int)), AV.sint IntKind.u8 ((msK y).v5 / (1 : Int) % (256 : Int)), AV.sint IntKind.u8 ((msK y).n / (72057594037927936 : Int) % (256 : Int)), AV.sint IntKind.u8 ((msK y).n / (281474976710656 : Int) % (256 : Int)), AV.sint IntKind.u8 ((msK y).n / (1099511627776 : Int) % (256 : Int)), AV.sint IntKind.u8 ((msK y).n / (4294967296 : Int) % (256 : Int)), AV.sint IntKind.u8 ((msK y).n / (16777216 : Int) % (256 : Int)), AV.sint IntKind.u8 ((msK y).n / (65536 : Int) % (256 : Int)), AV.sint IntKind.u8 ((msK y).n / (256 : Int) % (256 : Int)), AV.sint IntKind.u8 ((msK y).n % (256 : Int)), AV.sint IntKind.u8 ((msK y).a / (72057594037927936 : Int) % (256 : Int)), AV.sint IntKind.u8 ((msK y).a / (281474976710656 : Int) % (256 : Int)), AV.sint IntKind.u8 ((msK y).a / (1099511627776 : Int) % (256 : Int)), AV.sint IntKind.u8 ((msK y).a / (4294967296 : Int) % (256 : Int)), AV.sint IntKind.u8 ((msK y).a / (16777216 : Int) % (256 : Int)), AV.sint IntKind.u8 ((msK y).a / (65536 : Int) % (256 : Int)), AV.sint IntKind.u8 ((msK y).a / (256 : Int) % (256 : Int)), AV.sint IntKind.u8 ((msK y).a % (256 : Int))]) (Classical.propDecidable _)) (.left (decide (List.map (fun (x : AV) => natOf [x]) [AV.sint IntKind.u8 (msK y).k, AV.sint IntKind.u8 ((msK y).f % (256 : Int)), AV.sint IntKind.u8 ((msK y).t % (256 : Int)), AV.sint IntKind.u8 ((msK y).v0 / (72057594037927936 : Int) % (256 : Int)), AV.sint IntKind.u8 ((msK y).v0 / (281474976710656 : Int) % (256 : Int)), AV.sint IntKind.u8 ((msK y).v0 / (1099511627776 : Int) % (256 : Int)), AV.sint IntKind.u8 ((msK y).v0 / (4294967296 : Int) % (256 : Int)), AV.sint IntKind.u8 ((msK y).v0 / (16777216 : Int) % (256 : Int)), AV.sint IntKind.u8 ((msK y).v0 / (65536 : Int) % (256 : Int)), AV.sint IntKind.u8 ((msK y).v0 / (256 : Int) % (256 : Int)), AV.sint IntKind.u8 ((msK y).v0 / (1 : Int) % (256 : Int)), AV.sint IntKind.u8 ((msK y).v1 / (72057594037927936 : Int) % (256 : Int)), AV.sint IntKind.u8 ((msK y).v1 / (281474976710656 : Int) % (256 : Int)), AV.sint IntKind.u8 ((msK y).v1 / (1099511627776 : Int) % (256 : Int)), AV.sint IntKind.u8 ((msK y).v1 / (4294967296 : Int) % (256 : Int)), AV.sint IntKind.u8 ((msK y).v1 / (16777216 : Int) % (256 : Int)), AV.sint IntKind.u8 ((msK y).v1 / (65536 : Int) % (256 : Int)), AV.sint IntKind.u8 ((msK y).v1 / (256 : Int) % (256 : Int)), AV.sint IntKind.u8 ((msK y).v1 / (1 : Int) % (256 : Int)), AV.sint IntKind.u8 ((msK y).v2 / (72057594037927936 : Int) % (256 : Int)), AV.sint IntKind.u8 ((msK y).v2 / (281474976710656 : Int) % (256 : Int)), AV.sint IntKind.u8 ((msK y).v2 / (1099511627776 : Int) % (256 : Int)), AV.sint IntKind.u8 ((msK y).v2 / (4294967296 : Int) % (256 : Int)), AV.sint IntKind.u8 ((msK y).v2 / (16777216 : Int) % (256 : Int)), AV.sint IntKind.u8 ((msK y).v2 / (65536 : Int) % (256 : Int)), AV.sint IntKind.u8 ((msK y).v2 / (256 : Int) % (256 : Int)), AV.sint IntKind.u8 ((msK y).v2 / (1 : Int) % (256 : Int)), AV.sint IntKind.u8 ((msK y).v3 / (72057594037927936 : Int) % (256 : Int)), AV.sint IntKind.u8 ((msK y).v3 / (281474976710656 : Int) % (256 : Int)), AV.sint IntKind.u8 ((msK y).v3 / (1099511627776 : Int) % (256 : Int)), AV.sint IntKind.u8 ((msK y).v3 / (4294967296 : Int) % (256 : Int)), AV.sint IntKind.u8 ((msK y).v3 / (16777216 : Int) % (256 : Int)), AV.sint IntKind.u8 ((msK y).v3 / (65536 : Int) % (256 : Int)), AV.sint IntKind.u8 ((msK y).v3 / (256 : Int) % (256 : Int)), AV.sint IntKind.u8 ((msK y).v3 / (1 : Int) % (256 : Int)), AV.sint IntKind.u8 ((msK y).v4 / (72057594037927936 : Int) % (256 : Int)), AV.sint IntKind.u8 ((msK y).v4 / (281474976710656 : Int) % (256 : Int)), AV.sint IntKind.u8 ((msK y).v4 / (1099511627776 : Int) % (256 : Int)), AV.sint IntKind.u8 ((msK y).v4 / (4294967296 : Int) % (256 : Int)), AV.sint IntKind.u8 ((msK y).v4 / (16777216 : Int) % (256 : Int)), AV.sint IntKind.u8 ((msK y).v4 / (65536 : Int) % (256 : Int)), AV.sint IntKind.u8 ((msK y).v4 / (256 : Int) % (256 : Int)), AV.sint IntKind.u8 ((msK y).v4 / (1 : Int) % (256 : Int)), AV.sint IntKind.u8 ((msK y).v5 / (72057594037927936 : Int) % (256 : Int)), AV.sint IntKind.u8 ((msK y).v5 / (281474976710656 : Int) % (256 : Int)), AV.sint IntKind.u8 ((msK y).v5 / (1099511627776 : Int) % (256 : Int)), AV.sint IntKind.u8 ((msK y).v5 / (4294967296 : Int) % (256 : Int)), AV.sint IntKind.u8 ((msK y).v5 / (16777216 : Int) % (256 : Int)), AV.sint IntKind.u8 ((msK y).v5 / (65536 : Int) % (256 : Int)), AV.sint IntKind.u8 ((msK y).v5 / (256 : Int) % (256 : Int)), AV.sint IntKind.u8 ((msK y).v5 / (1 : Int) % (256 : Int)), AV.sint IntKind.u8 ((msK y).n / (72057594037927936 : Int) % (256 : Int)), AV.sint IntKind.u8 ((msK y).n / (281474976710656 : Int) % (256 : Int)), AV.sint IntKind.u8 ((msK y).n / (1099511627776 : Int) % (256 : Int)), AV.sint IntKind.u8 ((msK y).n / (4294967296 : Int) % (256 : Int)), AV.sint IntKind.u8 ((msK y).n / (16777216 : Int) % (256 : Int)), AV.sint IntKind.u8 ((msK y).n / (65536 : Int) % (256 : Int)), AV.sint IntKind.u8 ((msK y).n / (256 : Int) % (256 : Int)), AV.sint IntKind.u8 ((msK y).n % (256 : Int)), AV.sint IntKind.u8 ((msK y).a / (72057594037927936 : Int) % (256 : Int)), AV.sint IntKind.u8 ((msK y).a / (281474976710656 : Int) % (256 : Int)), AV.sint IntKind.u8 ((msK y).a / (1099511627776 : Int) % (256 : Int)), AV.sint IntKind.u8 ((msK y).a / (4294967296 : Int) % (256 : Int)), AV.sint IntKind.u8 ((msK y).a / (16777216 : Int) % (256 : Int)), AV.sint IntKind.u8 ((msK y).a / (65536 : Int) % (256 : Int)), AV.sint IntKind.u8 ((msK y).a / (256 : Int) % (256 : Int)), AV.sint IntKind.u8 ((msK y).a % (256 : Int))] = bytesOf n (by8 y))) (.stop (Hd.call (27 : Nat) []) [] ([]))))))) (by kernel_rfl) ?_
     refine hold_leftD0 (Classical.byContradiction fun h10 => by exact h10 (all_by8 _ _)) ?_
     refine hold_leftD0 (Classical.byContradiction fun h10 => by exact h10 rfl) ?_
     refine hold_leftD0 (Classical.byContradiction fun h10 => by exact h10 ⟨rfl, rfl, rfl⟩) ?_
     refine hold_leftD0 (Classical.byContradiction fun h10 => by exact h10 (byteL_cast (l' := (msK y).ask.map cell8) (by kernel_rfl) (byteL_ask ms_k))) ?_
     refine hold_leftD0 (Classical.byContradiction fun h10 => by exact h10 (Eq.trans (by kernel_rfl) (ask_back iy))) ?_
     refine hold_stop (fun hd hb => ?_)
     refine ok_call0 hd works rfl ?_
     rintro x G ⟨rfl, rfl⟩
     refine ⟨rfl, fun g hg => (by cases hg), ?_⟩
     refine ok_sk (.stop []) (S := .stop (Hd.leaf (AV.bool Bool.true)) [] ([])) (by kernel_rfl) ?_
     refine hold_stop (fun hd hb => ?_)
     exact ok_leaf0 hd rfl ⟨rfl, rfl⟩
    refine ok_sk (.stop []) (S := .stop (Hd.call (27 : Nat) []) [] ([])) (by kernel_rfl) ?_
    refine hold_stop (fun hd hb => ?_)
    refine ok_call0 hd works rfl ?_
    rintro x G ⟨rfl, rfl⟩
    refine ⟨rfl, fun g hg => (by cases hg), ?_⟩
    refine ok_sk (.stop []) (S := .stop (Hd.leaf (AV.bool Bool.true)) [] ([])) (by kernel_rfl) ?_
    refine hold_stop (fun hd hb => ?_)
    exact ok_leaf0 hd rfl ⟨rfl, rfl⟩
   refine ok_sk (.stop []) (S := .stop (Hd.leaf (AV.bool Bool.false)) [] ([])) (by kernel_rfl) ?_
   refine hold_stop (fun hd hb => ?_)
   exact absurd ⟨rfl, (isAsk_put hr mp mk).2.2.symm, fun j hj => by omega⟩ sm
  refine ok_sk (.stop []) (S := .stop (Hd.leaf (AV.bool Bool.false)) [] ([])) (by kernel_rfl) ?_
  refine hold_stop (fun hd hb => ?_)
  exact absurd mp my
end Go.Proofs.Ytjihbjjekhncaaa
namespace Go.Proofs.Ytjihbjjekhncaaa
open Go Go.RowKit Sv
set_option linter.unusedVariables false
set_option maxRecDepth 100000
set_option maxHeartbeats 0
section
variable {P : Program} {w : World} {H : Type} {enc : TypeId × Value → H} {base : Nat} {sp : Nat → Bool} {held : Bool}
theorem reif_map {t : TypeId} {X Y : Type} {row : X → List AV} {Q : X → Prop} {row' : Y → List AV} {Q' : Y → Prop} (h : Reif enc P w base sp held t X row Q) (g : X → Y) (h1 : ∀ x ρ vs, Q x → VDs ρ (row x) vs → VDs ρ (row' (g x)) vs) (h2 : ∀ x, Q x → Q' (g x)) : Reif enc P w base sp held t Y row' Q' := fun fuel cs d hd => by
  obtain ⟨x, hx, hq⟩ := h fuel cs d hd
  exact ⟨g x, h1 x _ _ hq hx, h2 x hq⟩
theorem u64_rng {x : Int} (h : IntKind.u64.min ≤ x ∧ x ≤ IntKind.u64.max) : 0 ≤ x ∧ x ≤ 18446744073709551615 := by
  have e : IntKind.u64.min = 0 := by decide
  have e' : IntKind.u64.max = 18446744073709551615 := by decide
  omega
theorem u8_rng {x : Int} (h : IntKind.u8.min ≤ x ∧ x ≤ IntKind.u8.max) : 0 ≤ x ∧ x ≤ 255 := by
  have e : IntKind.u8.min = 0 := by decide
  have e' : IntKind.u8.max = 255 := by decide
  omega
instance : Inhabited EvI := ⟨⟨0, 0, 0, 0, 0, 0, 0, 0, 0, 0, 0, 0, 0, 0⟩⟩
theorem reif_vec : Reif enc Try.prog w base sp held 24 (Nat → Int) (fun f => (List.range 6).flatMap fun i => [.sint .u64 (f i)]) (fun f => ∀ i, i < 6 → IntKind.u64.min ≤ f i ∧ f i ≤ IntKind.u64.max) :=
  reif_array 6 1 Try.underlying24 (by kernel_rfl) (by kernel_rfl) (reif_int .u64 Try.underlying22)
theorem reif_ev : Reif enc Try.prog w base sp held 26 EvI EvI.row EvI.rng :=
  reif_map (reif_struct Try.underlying26 (reif_field (z := 1) rfl (by kernel_rfl) (reif_int .i64 Try.underlying3) (reif_field (z := 1) rfl (by kernel_rfl) (reif_int .u64 Try.underlying22) (reif_field (z := 6) rfl (by kernel_rfl) reif_vec (reif_field (z := 1) rfl (by kernel_rfl) (reif_int .u8 Try.underlying5) (reif_field (z := 1) rfl (by kernel_rfl) (reif_int .u64 Try.underlying22)
    (reif_field (z := 1) rfl (by kernel_rfl) (reif_int .i64 Try.underlying3) (reif_field (z := 1) rfl (by kernel_rfl) (reif_int .i64 Try.underlying2) (reif_field (z := 1) rfl (by kernel_rfl) (reif_int .u64 Try.underlying22) (reif_field (z := 1) rfl (by kernel_rfl) (reif_int .u64 Try.underlying22) (reif_end (of_decide_eq_true (by kernel_rfl)))))))))))))
    (fun x => ⟨x.1, x.2.1, x.2.2.1 0, x.2.2.1 1, x.2.2.1 2, x.2.2.1 3, x.2.2.1 4, x.2.2.1 5, x.2.2.2.1, x.2.2.2.2.1, x.2.2.2.2.2.1, x.2.2.2.2.2.2.1, x.2.2.2.2.2.2.2.1, x.2.2.2.2.2.2.2.2.1⟩)
    (fun x ρ vs _ h => h)
    (fun x ⟨_, h1, h2, h3, h4, _, _, h5, h6, _⟩ => ⟨u64_rng h1, u64_rng (h2 0 (by decide)), u64_rng (h2 1 (by decide)), u64_rng (h2 2 (by decide)), u64_rng (h2 3 (by decide)), u64_rng (h2 4 (by decide)), u64_rng (h2 5 (by decide)), u8_rng h3, u64_rng h4, u64_rng h5, u64_rng h6⟩)
def MsX : Type := MsI × Nat × (Nat → EvI)
def MsX.row (x : MsX) : List AV := x.1.row (evs x.2.1 x.2.2)
def MsX.rng (x : MsX) : Prop := x.1.rng ∧ x.2.1 ≤ maxLen ∧ ∀ j, j < x.2.1 → (x.2.2 j).rng
theorem reif_ms : Reif enc Try.prog w base sp held 46 MsX MsX.row MsX.rng :=
  reif_map (reif_struct Try.underlying46 (reif_field (z := 1) rfl (by kernel_rfl) (reif_int .u8 Try.underlying5) (reif_field (z := 1) rfl (by kernel_rfl) (reif_int .i64 Try.underlying3) (reif_field (z := 1) rfl (by kernel_rfl) (reif_int .i64 Try.underlying3) (reif_field (z := 6) rfl (by kernel_rfl) reif_vec
    (reif_field (z := 1) rfl (by kernel_rfl) (reif_slice 14 Try.underlying32 (by kernel_rfl) (by decide) (fun _ => rfl) reif_ev) (reif_field (z := 1) rfl (by kernel_rfl) (reif_int .u64 Try.underlying22) (reif_field (z := 1) rfl (by kernel_rfl) (reif_int .i64 Try.underlying2) (reif_end (of_decide_eq_true (by kernel_rfl)))))))))))
    (fun x => (⟨x.1, x.2.1, x.2.2.1, x.2.2.2.1 0, x.2.2.2.1 1, x.2.2.2.1 2, x.2.2.2.1 3, x.2.2.2.1 4, x.2.2.2.1 5, x.2.2.2.2.2.1, x.2.2.2.2.2.2.1⟩, x.2.2.2.2.1.1, x.2.2.2.2.1.2))
    (fun x ρ vs _ h => h)
    (fun x ⟨_, _, _, h2, h5, h6, _⟩ => ⟨⟨u64_rng (h2 0 (by decide)), u64_rng (h2 1 (by decide)), u64_rng (h2 2 (by decide)), u64_rng (h2 3 (by decide)), u64_rng (h2 4 (by decide)), u64_rng (h2 5 (by decide)), u64_rng h6⟩, h5⟩)
theorem reif_by : Reif enc Try.prog w base sp held 27 (Nat × (Nat → Nat)) (fun p => [.data 1 p.1 (by8 p.2)]) (fun p => p.1 ≤ maxLen) :=
  reif_map (reif_slice 1 Try.underlying27 (by kernel_rfl) (by decide) (fun _ => rfl) (reif_int .u8 Try.underlying5))
    (fun p => (p.1, fun i => (p.2 i).toNat))
    (fun x ρ vs q h => by
      cases h with
      | cons _ v _ m h t =>
        refine .cons _ _ _ _ (vd_ext (fun i hi => ?_) h) t
        have := u8_rng (q.2 i hi)
        show [AV.sint .u8 (x.2 i)] = [AV.sint .u8 (((x.2 i).toNat % 256 : Nat) : Int)]
        rw [show (((x.2 i).toNat % 256 : Nat) : Int) = x.2 i by omega])
    (fun x q => q.1)
end
theorem mlaw (x : MsX) (hx : x.rng) (p : Nat × (Nat → Nat)) (hp : p.1 ≤ maxLen) : Runs Try.prog 9 [.agg x.row, .data 1 p.1 (by8 p.2)] fun x G => x = .bool true ∧ G = [] := by
  have e : maxLen = 9223372036854775807 := by decide
  have h1 := hx.2.1
  exact law x.1 x.2.1 x.2.2 (by omega) hx.1 hx.2.2 p.1 p.2 (by omega)
end Go.Proofs.Ytjihbjjekhncaaa
