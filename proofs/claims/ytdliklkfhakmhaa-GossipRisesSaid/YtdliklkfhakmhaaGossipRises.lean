/-
  For every slice of steps and every slice of numbers of regions: what others know never falls, is at least all that was told and no more than the greatest of it, and what all of some know each of them knows; no further conditions.
-/
import Derived.Test.YtdliklkfhakmhaaRows
import Derived.WalkKit
import Derived.ProofKit
import Derived.OpenShut
import Derived.ShutString
import Derived.ChangeOld
import Derived.Below
import Derived.Test.YtdliklkfhakmhaaGosR
namespace Go.Proofs.Ytdliklkfhakmhaa.gossipRises
open Go.ChangeShapes Go.WideShapes Go.ChangeAt Go.RowKit
open Go.ChangeMaps (open_string shut_string)
set_option linter.unusedVariables false

theorem own : ownKnob Try.prog.godebug = none := by kernel_rfl
theorem laidOut : laidOutB Try.prog = true := by kernel_rfl

attribute [local go_sem ↓] exec_loadV exec_storeV exec_buildV Go.wp_at_zero Go.wp_at_succ

set_option maxRecDepth 100000 in
set_option maxHeartbeats 4000000 in
theorem walk (A0 : Option Addr) (l0 : List (Int × List Nat)) (c0 : Nat) (A1 : Option Addr) (z1 : List Int) (c1 : Nat) (w : World) (w0 : Steps w w.heap.size A0 l0) (u0 : ∀ p ∈ l0, (Lit.int .i64 p.1).wf = true ∧ p.2.length = 6 ∧ ∀ x ∈ p.2, x ≤ 18446744073709551615) (g0 : l0.length ≤ c0) (m0 : c0 ≤ maxLen) (w1 : Nums w w.heap.size A1 z1) (u1 : ∀ z ∈ z1, (Lit.int .i64 z).wf = true) (g1 : z1.length ≤ c1) (m1 : c1 ≤ maxLen) :
    Calls Try.prog 8 #[.slice A0 l0.length c0, .slice A1 z1.length c1] w fun e w' => e = .returned (.bool true) ∧ Below w.heap.size w w' := by
  obtain ⟨n0, hn0⟩ : ∃ n, Hid (n = l0.length) := ⟨_, Lib.hid rfl⟩
  obtain ⟨n1, hn1⟩ : ∃ n, Hid (n = z1.length) := ⟨_, Lib.hid rfl⟩
  have D0 := Lib.hid w0
  have D1 := Lib.hid w1
  have sZ : ∀ W : World, (storeV (.pointer (some ⟨W.heap.size, 0, none⟩)) (.agg (vecA Z6))).run Try.prog (W.alloc (.cells #[.int .u64 0, .int .u64 0, .int .u64 0, .int .u64 0, .int .u64 0, .int .u64 0] 24)) = .ok () (W.alloc (.cells (vecA Z6) 24)) := fun W => run_storeV_new rfl
  have hzw : Calls Try.prog 8 #[.slice A0 n0 c0, .slice A1 n1 c1] w fun e w' => e = .returned (.bool true) ∧ Below w.heap.size w w' := by
    clear w0 w1 u0 u1 g0 g1 m0 m1
    have hb0 := Below.refl w.heap.size w
    by_cases h100 : 100 < n0
    · have h1 : (100 : Int) < (n0 : Int) := by omega
      go_enter Try.func8, Try.ntmps8
      go_wp2_with fail
      refine (gworks_any _).mono ?_
      rintro e w2 ⟨rfl, hb2⟩
      go_wp2_with fail
      go_ret
      exact ⟨rfl, hb2⟩
    · by_cases h20 : 20 < n1
      · have h1 : ¬ (100 : Int) < (n0 : Int) := by omega
        have h2 : (20 : Int) < (n1 : Int) := by omega
        go_enter Try.func8, Try.ntmps8
        go_wp2_with fail
        refine (gworks_any _).mono ?_
        rintro e w2 ⟨rfl, hb2⟩
        go_wp2_with fail
        go_ret
        exact ⟨rfl, hb2⟩
      · have h1 : ¬ (100 : Int) < (n0 : Int) := by omega
        have h2 : ¬ (20 : Int) < (n1 : Int) := by omega
        go_enter Try.func8, Try.ntmps8
        go_wp2_with fail
        refine (gnew_any _).mono ?_
        rintro e w1 ⟨rfl, rfl⟩
        clear h1 h2
        go_wp2_with fail
        obtain ⟨w1, hw1⟩ : ∃ w1, Hid (w1 = (w.alloc (.cells (peersA K0) 88)).alloc (.cells (peersA K0) 50)) := ⟨_, Lib.hid rfl⟩
        go_loopw [7] (fun v wr => ∃ (i : Nat) (K : List (List Nat)), i ≤ n0 ∧ v = .int .i64 (i : Int) ∧ Six6 K ∧ Blk wr w.heap.size 88 (peersA K) ∧ Blk wr (w.heap.size + 1) 50 (peersA K) ∧ Below w.heap.size w wr) (fun v _ => n0 - (intOf v).toNat)
        case atStart =>
          exact ⟨0, K0, by omega, rfl, six0, (Blk.new w _ _).alloc _, Blk.at_ (w.alloc (.cells (peersA K0) 88)) _ _ _ (by simp), (hb0.alloc (Nat.le_refl _) _).alloc (by simp) _⟩
        case round =>
          obtain ⟨i, K, hi, rfl, hK, hp, hm, hb⟩ := hrel
          clear hw1
          by_cases hlt : i < n0
          · have hil : i < l0.length := by rw [← hn0.out]; exact hlt
            obtain ⟨b, off, rfl, hB, hc⟩ := (D0.out.below hb) (by omega)
            obtain ⟨hV6, hr⟩ := hc i l0[i] (List.getElem?_eq_getElem hil)
            generalize l0[i] = p at hV6 hr
            obtain ⟨z, V⟩ := p
            have hs : GS w wr b (off + i * 7) z V := ⟨hb, hB, hr 0 _ rfl, fun j v hj => by
              rw [Nat.add_assoc, Nat.add_comm 1 j]; exact hr (j + 1) v hj⟩
            have HV := Lib.hid hV6
            have c0 := hs.cz
            have BB := Lib.hid hB
            clear hc hr hV6 hil hB
            rcases reg_cases z with ⟨j, hj, rfl⟩ | hno
            · have hk : j < K.length := by rw [hK.six]; exact hj
              obtain ⟨L, hL⟩ : ∃ L, Hid (K[j]? = some L) := ⟨K[j], Lib.hid (List.getElem?_eq_getElem hk)⟩
              have HL6 : Hid (L.length = 6) := by show _ = _; exact hK.each L (List.mem_of_getElem? hL.out)
              obtain ⟨J, hJ⟩ : ∃ J, Hid (joinV [L, V] = J) := ⟨_, Lib.hid rfl⟩
              have HJ6 : Hid (J.length = 6) := by show _ = _; rw [← hJ.out]; exact jlen HL6.out HV.out
              obtain ⟨K', hK'⟩ : ∃ K', Hid (K.set j J = K') := ⟨_, Lib.hid rfl⟩
              have HK' : Hid (Six6 K') := by show Six6 K'; rw [← hK'.out]; exact hK.set_ HJ6.out
              have HKJ : Hid (K'[j]? = some J) := by show _ = _; rw [← hK'.out]; simp [hk]
              have HK := Lib.hid hK
              have HI := Lib.hid hlt
              have HJJ := Lib.hid hj
              have sL : ∀ W : World, (storeV (.pointer (some ⟨W.heap.size, 0, none⟩)) (.agg (vecA L))).run Try.prog (W.alloc (.cells #[.int .u64 0, .int .u64 0, .int .u64 0, .int .u64 0, .int .u64 0, .int .u64 0] 24)) = .ok () (W.alloc (.cells (vecA L) 24)) := fun W => run_storeV_new HL6.out
              have sJ : ∀ W : World, (storeV (.pointer (some ⟨W.heap.size, 0, none⟩)) (.agg (vecA J))).run Try.prog (W.alloc (.cells #[.int .u64 0, .int .u64 0, .int .u64 0, .int .u64 0, .int .u64 0, .int .u64 0] 24)) = .ok () (W.alloc (.cells (vecA J) 24)) := fun W => run_storeV_new HJ6.out
              have cz : ∀ W, GS w W b (off + i * 7) ((j : Int) + 1) V → W.cell? ⟨b, off + i * 7, none⟩ = some (.int .i64 ((j : Int) + 1)) := fun W h => h.cz
              have lV : ∀ W, GS w W b (off + i * 7) ((j : Int) + 1) V → (loadV (.pointer (some ⟨b, off + i * 7 + 1, none⟩))).run Try.prog W = .ok (.agg (vecA V)) W := fun W h => run_loadV_mid HV.out h.rv
              have hz1 : (1 : Int) ≤ (j : Int) + 1 := by omega
              have hz2 : (j : Int) + 1 ≤ 6 := by omega
              clear hk hK
              go_wp2_with fail
              refine (of_yes _ _ K HK.out j hj L hL.out _ hp).mono ?_
              rintro e w2 ⟨rfl, hb2⟩
              have s2 := GT.next hb2 ⟨hs, hp, hm⟩
              have s3 := s2.alloc (.cells (vecA L) 24)
              have q3 := s3.s
              have a3 := Blk.new w2 24 (vecA L)
              have HA := Lib.hid s2.m.lt
              clear hs hp hm hb2 c0 hb s2
              go_wp2_with fail
              go_region_held (fun W => GS w W b (off + i * 7) ((j : Int) + 1) V) (first | (exact GS.drew (by assumption)) | (exact GS.grown (by assumption) (Nat.le_refl _) (by assumption))) (first | (go_at_call 39; (refine (gtold_yes _ _ K HK.out j hj L hL.out V HV.out _ (Blk.drew s3.p) K' (by rw [hJ.out]; exact hK'.out) _ rfl).mono ?_); rintro e w4 ⟨rfl, B4, G4⟩))
              have q4 : GS w w4 b (off + i * 7) ((j : Int) + 1) V := by assumption
              have m4 := (Blk.drew s3.m).grown G4 (by omega)
              have a4 := (Blk.drew a3).grown G4 (by have := HA.out; omega)
              have c4 := q4.cz
              clear s3 q3 a3 G4
              go_wp2_with fail
              refine (of_yes _ _ K' HK'.out j hj J HKJ.out _ B4).mono ?_
              rintro e w5 ⟨rfl, hb5⟩
              have g5 : GI w (w5.alloc (.cells (vecA J) 24)) b (off + i * 7) ((j : Int) + 1) V K' K w2.heap.size L w5.heap.size J :=
                ⟨(GT.next hb5 ⟨q4, B4, m4⟩).alloc _, (a4.below hb5 a4.lt).alloc _, Blk.new _ _ _, HA.out, by have h1 := HA.out; have h2 := a4.lt; have h3 := hb5.size; omega⟩
              clear q4 B4 m4 a4 c4 hb5
              go_wp2_with fail
              have HG := Lib.hid g5
              clear g5
              go_loopw [11] (fun v wx => ∃ (k : Nat), k ≤ 6 ∧ v = .int .i64 (k : Int) ∧ GI w wx b (off + i * 7) ((j : Int) + 1) V K' (K.set j (mix6 J L k)) w2.heap.size L w5.heap.size J) (fun v _ => 6 - (intOf v).toNat)
              case atStart =>
                refine ⟨0, by omega, rfl, ?_⟩
                rw [mix_zero, set_self hL.out]
                exact HG.out
              case round =>
                obtain ⟨k, hk, rfl, hg⟩ := hrel
                clear HG sL sJ
                by_cases hk6 : k < 6
                · have hVk : k < V.length := by rw [HV.out]; exact hk6
                  have hLk : k < L.length := by rw [HL6.out]; exact hk6
                  have hJk : k < J.length := by rw [HJ6.out]; exact hk6
                  have c1 := hg.t.s.cz
                  have c2 := hg.t.s.vat k hVk
                  have hS6 : Six6 (K.set j (mix6 J L k)) := HK.out.set_ (mix_len HJ6.out HL6.out k hk)
                  have hQ : (K.set j (mix6 J L k))[j]? = some (mix6 J L k) := by simp [HK.out.six, HJJ.out]
                  have hQk : (mix6 J L k)[k]? = some L[k] := by rw [mix_at HJ6.out HL6.out k hk6, List.getElem?_eq_getElem hLk]
                  have c3 := hg.t.mat hS6 j k HJJ.out hk6 _ hQ _ hQk
                  have PUT := Lib.hid (hg.put hS6 j k HJJ.out hk6 _ hQ J[k])
                  have c4 := hg.t.m.frozen (j * 6 + k)
                  have HMX : Hid (J[k] = max L[k] V[k]) := by
                    show _ = _
                    have := join_at HL6.out HV.out k hk6 hLk hVk (by rw [hJ.out]; exact hJk)
                    simp only [hJ.out] at this
                    exact this
                  have NEXT : Hid (Six6 ((K.set j (mix6 J L k)).set j ((mix6 J L k).set k J[k])) ∧ (K.set j (mix6 J L k)).set j ((mix6 J L k).set k J[k]) = K.set j (mix6 J L (k + 1))) := by
                    have e : (K.set j (mix6 J L k)).set j ((mix6 J L k).set k J[k]) = K.set j (mix6 J L (k + 1)) := by rw [set_set_same, mix_set HJ6.out HL6.out k hk6 hJk]
                    exact ⟨by rw [e]; exact HK.out.set_ (mix_len HJ6.out HL6.out (k + 1) (by omega)), e⟩
                  have VJ := Lib.hid (show J[k] = (if L[k] < V[k] then V[k] else L[k]) from by rw [HMX.out]; split <;> omega)
                  generalize hxJ : J[k] = xJ at PUT NEXT VJ HMX
                  generalize hxL : L[k] = xL at c3 VJ HMX
                  generalize hxV : V[k] = xV at c2 VJ HMX
                  have HXJ := Lib.hid hxJ
                  have HXL := Lib.hid hxL
                  have HXV := Lib.hid hxV
                  clear hxJ hxL hxV hS6 hQ hQk hg
                  go_wp2_with fail
                  have kj : IntKind.i64.wrap (j : Int) = (j : Int) := IntWalk.i64_in _ (by omega)
                  have VJ' : Hid ((if xL < xV then (xV : Int) else (xL : Int)) = (xJ : Int)) := by
                    show _ = _
                    rw [VJ.out]; split <;> rfl
                  by_cases hcmp : xL < xV
                  case' pos => have hJX : Hid (xJ = xV) := by show _ = _; rw [VJ.out, if_pos hcmp]
                  case' neg => have hJX : Hid (xJ = xL) := by show _ = _; rw [VJ.out, if_neg hcmp]
                  all_goals
                    go_region
                    have G6 := PUT.out.drew
                    rw [NEXT.out.2, hJX.out] at G6
                    generalize (wr.setCell ⟨w.heap.size + 1, j * 6 + k, none⟩ (Value.int IntKind.u64 _)).drew = wy at G6 ⊢
                    have d1 : wy.cell? ⟨w5.heap.size, k, none⟩ = some (.int .u64 (xJ : Int)) := by rw [G6.n.vec k hJk, HXJ.out]
                    have d2 : wy.cell? ⟨w2.heap.size, k, none⟩ = some (.int .u64 (xL : Int)) := by rw [G6.a.vec k hLk, HXL.out]
                    have d3 : wy.cell? ⟨b, off + i * 7 + 1 + k, none⟩ = some (.int .u64 (xV : Int)) := by rw [G6.t.s.vat k hVk, HXV.out]
                    have G7 := Lib.hid G6
                    have t1 : ¬ xJ < xL := by have := HMX.out; omega
                    have t2 : ¬ xJ < xV := by have := HMX.out; omega
                    have t3 : ¬ (xJ : Int) < (xL : Int) := by omega
                    have t4 : ¬ (xJ : Int) < (xV : Int) := by omega
                    have t5 : decide ((xJ : Int) < (xL : Int)) = false := decide_eq_false t3
                    have t6 : decide (xJ < xL) = false := decide_eq_false t1
                    clear G6 c1 c2 c3 c4 VJ VJ' hcmp
                    go_wp2_with fail
                    go_quiet (fail)
                    go_wp2_with fail
                    exact ⟨⟨k + 1, by omega, by go_num, G7.out.drewN nq⟩, by simp [intOf]; omega⟩
                · obtain rfl : k = 6 := by omega
                  rw [mix_all HJ6.out HL6.out, hK'.out] at hg
                  have lN : ∀ W, GI w W b (off + i * 7) ((j : Int) + 1) V K' K' w2.heap.size L w5.heap.size J → (loadV (.pointer (some ⟨w5.heap.size, 0, none⟩))).run Try.prog W = .ok (.agg (vecA J)) W := fun W h => run_loadV HJ6.out h.n
                  have lM : ∀ W, GI w W b (off + i * 7) ((j : Int) + 1) V K' K' w2.heap.size L w5.heap.size J → (loadV (.pointer (some ⟨w.heap.size + 1, j * 6, none⟩))).run Try.prog W = .ok (.agg (vecA J)) W := fun W h => run_loadV_mid HJ6.out (peers_range HK'.out h.t.m j HJJ.out J HKJ.out)
                  have lz : ∀ W, GI w W b (off + i * 7) ((j : Int) + 1) V K' K' w2.heap.size L w5.heap.size J → W.cell? ⟨b, off + i * 7, none⟩ = some (.int .i64 ((j : Int) + 1)) := fun W h => h.t.s.cz
                  have qJ : ∀ W, (Op.equalIn 10000 24 (.agg (vecA J)) (.agg (vecA J))).run Try.prog W = .ok true W := vec_same HJ6.out rfl
                  have kj : IntKind.i64.wrap (j : Int) = (j : Int) := IntWalk.i64_in _ (by omega)
                  clear cz lV
                  go_wp2_with fail
                  go_region_held (fun W => GI w W b (off + i * 7) ((j : Int) + 1) V K' K' w2.heap.size L w5.heap.size J) (first | (exact GI.drew (by assumption))) (first | fail)
                  have G8 : GI w wr.drew b (off + i * 7) ((j : Int) + 1) V K' K' w2.heap.size L w5.heap.size J := by assumption
                  go_wp2_with fail
                  go_roundw
                  case rel => exact ⟨i + 1, K', by omega, by go_num, HK'.out, G8.t.p, G8.t.m, G8.t.s.bel⟩
                  case measure => simp [intOf]; omega
            · have HNO := Lib.hid hno
              have cz : ∀ W, GT w W b (off + i * 7) z V K K → W.cell? ⟨b, off + i * 7, none⟩ = some (.int .i64 z) := fun W h => h.s.cz
              have lV : ∀ W, GT w W b (off + i * 7) z V K K → (loadV (.pointer (some ⟨b, off + i * 7 + 1, none⟩))).run Try.prog W = .ok (.agg (vecA V)) W := fun W h => run_loadV_mid HV.out h.s.rv
              rcases hno with h | h
              case' inl => have hz1 : ¬ (1 : Int) ≤ z := by omega
              case' inr =>
                have hz1 : (1 : Int) ≤ z := by omega
                have hz2 : ¬ z ≤ 6 := by omega
              all_goals
                go_wp2_with fail
                refine (of_no _ z HNO.out _).mono ?_
                rintro e w2 ⟨rfl, hb2⟩
                have s2 := (GT.next hb2 ⟨hs, hp, hm⟩).alloc (.cells (vecA Z6) 24)
                clear hs hp hm hb2 c0 hb
                go_wp2_with fail
                go_region_held (fun W => GT w W b (off + i * 7) z V K K) (first | (exact GT.drew (by assumption)) | (exact GT.next (by assumption) (by assumption))) (first | (go_at_call 39; refine (told_no _ z HNO.out V _).mono ?_; rintro e w4 ⟨rfl, hb4⟩))
                have h4 : GT w w4 b (off + i * 7) z V K K := by assumption
                have c4 := h4.s.cz
                go_wp2_with fail
                go_roundw
                case rel => exact ⟨i + 1, K, by omega, by go_num, hK, h4.p, h4.m, h4.s.bel⟩
                case measure => simp [intOf]; omega
          · have hge : ¬ ((i : Int) < (n0 : Int)) := by omega
            obtain rfl : i = n0 := by omega
            go_wp2_with fail
            have P1 : PeerAt wr (some ⟨w.heap.size, 0, none⟩) (some K) := .inr ⟨_, _, K, rfl, rfl, hK, hp⟩
            obtain ⟨M, hM⟩ : ∃ M, Hid (meetV (z1.map (ofV (some K))) = M) := ⟨_, Lib.hid rfl⟩
            have hall : ∀ u ∈ z1.map (ofV (some K)), u.length = 6 := fun u hu => by
              obtain ⟨z, _, rfl⟩ := List.mem_map.1 hu
              exact ofV_len P1 z
            have HALL := Lib.hid hall
            have HM6 : Hid (M.length = 6) := by show _ = _; rw [← hM.out]; exact meetV_len hall
            refine (least_any _ n1 c1 z1 _ P1 ((D1.out.below hb).more hb.size) hn1.out (by rw [← hn1.out]; omega)).mono ?_
            rintro e w2 ⟨rfl, hb2⟩
            rw [hM.out]
            have P2 := P1.below hb2
            have z2 := hb.trans (hb2.mono hb.size)
            have sM : ∀ W : World, (storeV (.pointer (some ⟨W.heap.size, 0, none⟩)) (.agg (vecA M))).run Try.prog (W.alloc (.cells #[.int .u64 0, .int .u64 0, .int .u64 0, .int .u64 0, .int .u64 0, .int .u64 0] 24)) = .ok () (W.alloc (.cells (vecA M) 24)) := fun W => run_storeV_new HM6.out
            have P3 := P2.below ((Below.refl w2.heap.size w2).alloc (Nat.le_refl _) (.cells (vecA M) 24))
            have z3 := z2.alloc z2.size (.cells (vecA M) 24)
            have B3 := Blk.new w2 24 (vecA M)
            clear P1 P2 z2 hb2 hb hall hp hm hK hge hlt hi h100 D0 sZ
            go_wp2_with fail
            go_loopw [13] (fun v wr => ∃ (i : Nat), i ≤ n1 ∧ v = .int .i64 (i : Int) ∧ PeerAt wr (some ⟨w.heap.size, 0, none⟩) (some K) ∧ Blk wr w2.heap.size 24 (vecA M) ∧ Below w.heap.size w wr) (fun v _ => n1 - (intOf v).toNat)
            case atStart => exact ⟨0, by omega, rfl, P3, B3, z3⟩
            case round =>
              obtain ⟨i, hi, rfl, P4, B4, z4⟩ := hrel
              clear P3 B3 z3 sM
              by_cases hlt : i < n1
              · have hil : i < z1.length := by rw [← hn1.out]; exact hlt
                obtain ⟨b, off, rfl, hB, hc⟩ := (D1.out.below z4) (by omega)
                have cz := hc i z1[i] (List.getElem?_eq_getElem hil)
                have t1 := of_any P4 z1[i]
                have h6 := ofV_len P4 z1[i]
                have hmem : ofV (some K) z1[i] ∈ z1.map (ofV (some K)) := List.mem_map.2 ⟨_, List.getElem_mem hil, rfl⟩
                have hle : ∀ k, k < 6 → ∀ (h1 : k < M.length) (h2 : k < (ofV (some K) z1[i]).length), M[k] ≤ (ofV (some K) z1[i])[k] := fun k hk h1 h2 => by
                  have := meet_le _ HALL.out _ hmem k hk (by rw [hM.out]; exact h1) h2
                  simp only [hM.out] at this
                  exact this
                generalize ofV (some K) z1[i] = U at t1 h6 hmem hle
                generalize z1[i] = z at cz t1
                have HLE := Lib.hid hle
                have HU6 := Lib.hid h6
                have T1 := Lib.hid t1
                have HI := Lib.hid hlt
                have sU : ∀ W : World, (storeV (.pointer (some ⟨W.heap.size, 0, none⟩)) (.agg (vecA U))).run Try.prog (W.alloc (.cells #[.int .u64 0, .int .u64 0, .int .u64 0, .int .u64 0, .int .u64 0, .int .u64 0] 24)) = .ok () (W.alloc (.cells (vecA U) 24)) := fun W => run_storeV_new HU6.out
                clear hc hle h6 t1 hmem hB hil
                go_wp2_with fail
                refine T1.out.mono ?_
                rintro e w5 ⟨rfl, hb5⟩
                have hb6 := hb5.alloc hb5.size (.cells (vecA U) 24)
                have P6 := P4.below hb6
                have B6 := B4.below hb6 B4.lt
                have z6 := z4.trans (hb6.mono z4.size)
                have U6 := Blk.new w5 24 (vecA U)
                clear P4 B4 z4 hb5 hb6 T1 cz
                go_wp2_with fail
                go_loopw [15] (fun v wx => ∃ (k : Nat), k ≤ 6 ∧ v = .int .i64 (k : Int) ∧ PeerAt wx (some ⟨w.heap.size, 0, none⟩) (some K) ∧ Blk wx w2.heap.size 24 (vecA M) ∧ Blk wx w5.heap.size 24 (vecA U) ∧ Below w.heap.size w wx) (fun v _ => 6 - (intOf v).toNat)
                case atStart => exact ⟨0, by omega, rfl, P6, B6, U6, z6⟩
                case round =>
                  obtain ⟨k, hk, rfl, P7, B7, U7, z7⟩ := hrel
                  clear P6 B6 U6 z6 sU
                  by_cases hk6 : k < 6
                  · have hMk : k < M.length := by rw [HM6.out]; exact hk6
                    have hUk : k < U.length := by rw [HU6.out]; exact hk6
                    have d1 := B7.vec k hMk
                    have d2 := U7.vec k hUk
                    have hle := HLE.out k hk6 hMk hUk
                    generalize M[k] = xM at d1 hle
                    generalize U[k] = xU at d2 hle
                    have Z7 := Lib.hid z7
                    have P8 := Lib.hid P7
                    have B8 := Lib.hid B7
                    have U8 := Lib.hid U7
                    have t1 : ¬ xU < xM := by omega
                    have t2 : ¬ (xU : Int) < (xM : Int) := by omega
                    clear P7 B7 U7 z7 hle
                    go_wp2_with fail
                    go_quiet (fail)
                    go_wp2_with fail
                    exact ⟨⟨k + 1, by omega, by go_num, P8.out.below (Below.drewN (Below.refl _ _) nq), B8.out, U8.out, Below.drewN Z7.out nq⟩, by simp [intOf]; omega⟩
                  · have hk6' : ¬ ((k : Int) < 6) := by omega
                    go_wp2_with fail
                    go_roundw
                    case rel => exact ⟨i + 1, by omega, by go_num, P7, B7, z7⟩
                    case measure => simp [intOf]; omega
              · have hge2 : ¬ ((i : Int) < (n1 : Int)) := by omega
                go_wp2_with fail
                refine (gworks_any _).mono ?_
                rintro e w9 ⟨rfl, hb9⟩
                have z9 := z4.trans (hb9.mono z4.size)
                clear hb9 z4 P4 B4
                go_wp2_with fail
                go_ret
                exact ⟨rfl, z9⟩
  rw [← hn0.out, ← hn1.out]
  exact hzw

set_option maxRecDepth 100000 in
theorem lifted (os : Os) (started : os.Started) (H : Type) (enc : TypeId × Value → H) :
    ReturnsInHanded {} Try.checked os 8 .any (Rows.gossipRisesSpec.pre6 enc Try.prog Try.f8 Rows.gossipRisesRow.domain false) (Rows.gossipRisesSpec.post enc Try.prog Try.f8 false true false false) := by
  refine returnsInHanded_of_change (C := Try.checked) own started (by kernel_rfl) Try.func8
    (ChangeSpec.witness6 (enc := enc) (C := Try.checked) false ⟨#[], #[.slice none 0 0, .slice none 0 0], []⟩ 8 (by kernel_rfl) (by kernel_rfl) (by kernel_rfl) (by kernel_rfl)) ?_
  intro W base args ds gs before hval0 hW hcnd _
  have hval : ∀ (j : Nat) t v, Try.f8.params[j]? = some t → args[j]? = some v → Value.okWide Try.prog W .any base t v := hval0
  have hW' := hW
  obtain ⟨p, q, hA0, hV, rfl, hfz, hnd⟩ := hW
  have hA : DataW.TrodAll enc Try.prog W 0 (fun _ => true) true Try.f8.params.toList args.toList ds p := hA0
  rw [Try.params8] at hA hval
  obtain ⟨v0, vs0, d0, ds0, p0, q0, hargs, rfl, rfl, h0, r0⟩ := trodAll_cons hA
  obtain ⟨v1, vs1, d1, ds1, p1, q1, rfl, rfl, rfl, h1, r1⟩ := trodAll_cons r0
  obtain ⟨rfl, rfl, rfl⟩ := trodAll_nil r1
  obtain rfl : args = #[v0, v1] := by cases args; simp_all
  obtain ⟨rfl, rfl⟩ := trodVars_none hV
  obtain ⟨A0, n0, c0, rfl⟩ := okWide_slice Try.underlying46 (hval 0 46 v0 rfl rfl)
  have k0 := h0
  have lt0 : ∀ x ∈ p0, x.block < W.heap.size := by obtain ⟨m, hm⟩ := k0; exact DataW.trod_lt m _ _ _ hm
  obtain ⟨g0, m0, l0, rfl, w0, u0⟩ := open_steps h0
  obtain ⟨A1, n1, c1, rfl⟩ := okWide_slice Try.underlying47 (hval 1 47 v1 rfl rfl)
  have k1 := h1
  have lt1 : ∀ x ∈ p1, x.block < W.heap.size := by obtain ⟨m, hm⟩ := k1; exact DataW.trod_lt m _ _ _ hm
  obtain ⟨y1, x1⟩ : ∃ zs, IsRow .i64 W A1 n1 c1 zs := by
    obtain ⟨fuel, hf⟩ := h1
    rcases open_ints Try.underlying47 Try.underlying3 (by kernel_rfl) hf with ⟨hcs, _⟩ | ⟨x, l, c, zs, hcs, _, hl, hm, hz, _, hcell, hwz⟩
    · simp [Value.cells] at hcs
      obtain ⟨rfl, rfl, rfl⟩ := hcs
      exact ⟨[], .inl ⟨rfl, rfl, rfl, rfl⟩⟩
    · simp [Value.cells] at hcs
      obtain ⟨rfl, rfl, rfl⟩ := hcs
      exact ⟨zs, .inr ⟨_, rfl, hl, hm, by simpa using hz, hcell, hwz⟩⟩
  obtain ⟨z1, rfl, w1, u1, g1, m1⟩ := row_nums x1
  clear hA0 hval0
  refine (walk A0 l0 c0 A1 z1 c1 W w0 u0 g0 m0 w1 u1 g1 m1).mono fun e W' ⟨he, bel⟩ => ?_
  subst he
  exact ⟨_, rfl, _, _, _, [], _, [], hW', trodAll_mk1 (shut_bool Try.underlying4 _), (trodAll_cons_mk (Below.trod laidOut (by kernel_rfl) (of_decide_eq_true (by kernel_rfl)) k0 bel lt0) (trodAll_cons_mk (Below.trod laidOut (by kernel_rfl) (of_decide_eq_true (by kernel_rfl)) k1 bel lt1) trodAll_mk0)), rfl, bel.frame _, fun h => by cases h⟩

theorem over : Rows.gossipRisesRow.holds Try.pinned (OpenSpec.ofChange Rows.gossipRisesSpec) :=
  OpenClaim.holds_of_wide 8 Try.f8 rfl rfl rfl rfl rfl rfl rfl ⟨rfl, rfl, rfl, rfl, rfl⟩ rfl rfl rfl rfl rfl (by kernel_rfl) Try.func8 (by kernel_rfl)
    (of_decide_eq_true (by kernel_rfl)) (by unfold Func.isWrapper; first | (rw [if_pos (by decide +kernel)]; kernel_rfl) | (rw [if_neg (by decide +kernel)]; exact ⟨rfl, rfl⟩))
    (fun os started H enc _ => lifted os started H enc)

theorem proved : Rows.GossipRisesSaid := over
#print axioms proved
end Go.Proofs.Ytdliklkfhakmhaa.gossipRises
