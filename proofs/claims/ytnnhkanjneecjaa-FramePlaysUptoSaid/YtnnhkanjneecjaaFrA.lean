import Derived.Test.YtnnhkanjneecjaaFrMath
namespace Go.Proofs.Ytnnhkanjneecjaa
open Go.RowKit
/-! frame: the program's. -/
theorem sum_cs (A : Option Addr) (n c : Nat) (bs : List UInt8) (w : World) (hb : Bytes w w.heap.size A bs) (hn : n = bs.length) (hl : bs.length ≤ maxLen) :
    Calls Try.prog 31 #[.slice A n c] w fun e w' => e = .returned (.int .u32 (U (cs bs))) ∧ w = w' := by
  subst hn; exact sum_any A c bs w hb hl
theorem more_cs (A : Option Addr) (n c : Nat) (hs bs : List UInt8) (w : World) (hb : Bytes w w.heap.size A bs) (hn : n = bs.length) (hl : bs.length ≤ maxLen) :
    Calls Try.prog 33 #[.int .u32 (U (cs hs)), .slice A n c] w fun e w' => e = .returned (.int .u32 (U (cs (hs ++ bs)))) ∧ w = w' := by
  subst hn; rw [← cs_more]; exact more_any (cs hs) A c bs w hb hl
theorem fsum_any (A B : Option Addr) (n m c d : Nat) (hs bs : List UInt8) (w : World) (ha : Bytes w w.heap.size A hs) (hn : n = hs.length) (hb : Bytes w w.heap.size B bs) (hm : m = bs.length) (hl : hs.length ≤ maxLen) (hl2 : bs.length ≤ maxLen) :
    Calls Try.prog 55 #[.slice A n c, .slice B m d] w fun e w' => e = .returned (.int .u32 (U (cs (hs ++ bs)))) ∧ w = w' := by
  subst hn hm
  go_enter Try.func55, Try.ntmps55
  go_wp2_with fail
  refine (sum_cs A _ c hs w ha rfl hl).mono ?_
  rintro e w1 ⟨rfl, rfl⟩
  go_wp2_with fail
  refine (more_cs B _ d hs bs w hb rfl hl2).mono ?_
  rintro e w1 ⟨rfl, rfl⟩
  go_wp2_with fail
  go_ret
  exact ⟨rfl, rfl⟩
theorem top4 : top 4 = 4294967295 := by decide
set_option maxHeartbeats 1000000 in
theorem head_any (B : Option Addr) (m d : Nat) (s : List UInt8) (w : World) (hb : Bytes w w.heap.size B s) (hm : m = s.length) (hl : s.length ≤ 4096) :
    Calls Try.prog 53 #[.slice B m d] w fun e w' => ∃ A n c, e = .returned (.slice A n c) ∧ n = (hd s).length ∧ OwnB w' w.heap.size 5 (.slice A n c) (hd s) ∧ Below w.heap.size w w' := by
  have hmx : m ≤ 4096 := by omega
  have M1 := Lib.hid hm
  clear hm
  go_enter Try.func53, Try.ntmps53
  go_wp2_with fail
  refine (put_ok 4 size4 none 0 0 [] m w (no_bytes _ _ _) rfl (by simp) (by rw [top4]; omega) (by omega)).mono ?_
  rintro e w1 ⟨A1, n1, c1, rfl, hn1, hown1, hb1⟩
  have hs1 := hb1.size
  rw [List.nil_append] at hn1 hown1
  have x1 := (own_open hown1).1
  have y1 := Reads.more (Reads.below hb hb1) hs1
  have N1 := Lib.hid hn1
  clear hn1
  go_wp2_with fail
  refine (fsum_any A1 B n1 m c1 d (be 4 m) s w1 x1 N1.out y1 M1.out (by rw [be_len]; decide) (by unfold maxLen; omega)).mono ?_
  rintro e w2 ⟨rfl, rfl⟩
  generalize hx : cs (be 4 m ++ s) = X
  have hX := X.isLt
  rw [show U X = ((X.toNat : Nat) : Int) from rfl]
  generalize hy : X.toNat = y at hX
  go_wp2_with fail
  refine (put_ok 4 size4 A1 n1 c1 (be 4 m) y w1 x1 N1.out (by rw [be_len]; omega) (by rw [top4]; omega) (by omega)).mono ?_
  rintro e w2 ⟨A2, n2, c2, rfl, hn2, hown2, hb2⟩
  have e2 : be 4 m ++ be 4 y = hd s := by unfold hd; rw [← M1.out, hx, hy]
  rw [e2] at hn2 hown2
  have N2 := Lib.hid hn2
  clear hn2
  go_wp2_with fail
  go_ret
  exact ⟨A2, n2, c2, rfl, N2.out, own_less hown2 hs1, hb1.trans (hb2.mono hs1)⟩
theorem make_cap (w : World) (m : Nat) (h : m ≤ 281474976710656) : (Instr.makeSlice 22 (.int .i64 0) (.int .i64 (m : Int))).run Try.prog w =
    .ok (.slice (some ⟨w.heap.size, 0, none⟩) 0 m) (w.alloc (.cells (bv (List.replicate m 0)).toArray 5)) := by
  have := make_room w 0 m (by omega)
  rw [show ((0 : Nat) : Int) + (m : Int) = (m : Int) by omega, Nat.zero_add] at this
  exact this
theorem own_cap (w : World) (m : Nat) (h : m ≤ 281474976710656) : OwnB (w.alloc (.cells (bv (List.replicate m 0)).toArray 5)) w.heap.size 5 (.slice (some ⟨w.heap.size, 0, none⟩) 0 m) [] := by
  refine ⟨by simp [bv], .inr ⟨w.heap.size, m, _, rfl, Nat.le_refl _, heap_alloc_new w _, by simp, by unfold maxLen; omega, ?_, by simp [bv]⟩⟩
  simp [bv_len]
/-- bytes of the call's own and an error handed back. -/
def AnswerO (w : World) (bs : List UInt8) (err : Int) (e : Ending) (w' : World) : Prop :=
  ∃ A n c, e = .returned (.tuple #[.slice A n c, .int .i64 err]) ∧ n = bs.length ∧ OwnB w' w.heap.size 5 (.slice A n c) bs ∧ Below w.heap.size w w'
/-- may all records be? -/
def okF (l : List (List UInt8)) : Bool := l.all fun s => decide (s.length ≤ 4096)
theorem okF_yes {l : List (List UInt8)} (h : okF l = true) : ∀ s ∈ l, s.length ≤ 4096 := by
  intro s hs
  unfold okF at h
  rw [List.all_eq_true] at h
  exact of_decide_eq_true (h s hs)
theorem okF_all {l : List (List UInt8)} (h : ∀ s ∈ l, s.length ≤ 4096) : okF l = true := by
  unfold okF
  rw [List.all_eq_true]
  exact fun s hs => decide_eq_true (h s hs)
theorem okF_no {l : List (List UInt8)} {s : List UInt8} (hs : s ∈ l) (h : 4096 < s.length) : okF l = false := by
  cases e : okF l with
  | false => rfl
  | true => have := okF_yes e s hs; omega
/-- what Put answers. -/
def putFE (l : List (List UInt8)) : Int := if okF l then 0 else 6
def putFB (bs : List UInt8) (l : List (List UInt8)) : List UInt8 := if okF l then bs ++ encF l else []
theorem putFB_app (bs s : List UInt8) (l : List (List UInt8)) (k : Nat) (hk : k < l.length) (hs : l[k] = s) : bs ++ encF (l.take k) ++ hd s ++ s = bs ++ encF (l.take (k + 1)) := by
  rw [encF_take l k hk, hs]; unfold fr; simp only [List.append_assoc]
theorem encF_take_le (l : List (List UInt8)) (k : Nat) : (encF (l.take k)).length ≤ (encF l).length := by
  have e : encF l = encF (l.take k) ++ encF (l.drop k) := by rw [← encF_app, List.take_append_drop]
  rw [e, List.length_append]; omega
set_option maxHeartbeats 2000000 in
theorem fput_any (A B : Option Addr) (n c m d : Nat) (bs : List UInt8) (l : List (List UInt8)) (w : World) (hb : Bytes w w.heap.size A bs) (hn : n = bs.length) (hl : Strs w w.heap.size B l) (hm : m = l.length)
    (hsum : bs.length + (encF l).length ≤ 1099511627776) (hll : l.length ≤ 1099511627776) :
    Calls Try.prog 36 #[.slice A n c, .slice B m d] w (AnswerO w (putFB bs l) (putFE l)) := by
  subst hn hm
  cases hok : okF l with
  | false =>
    have h1 : putFE l = 6 := by unfold putFE; rw [hok]; rfl
    have h2 : putFB bs l = [] := by unfold putFB; rw [hok]; rfl
    rw [h1, h2]
    clear h1 h2
    have HO := Lib.hid hok
    clear hok
    go_enter Try.func36, Try.ntmps36
    go_wp2_with fail
    go_loopw [6, 8, 16] (fun s _ i wr => ∃ k : Nat, k ≤ l.length ∧ i = .int .i64 k ∧ s = .int .i64 ((bs.length + (encF (l.take k)).length : Nat) : Int) ∧ (∀ x ∈ l.take k, x.length ≤ 4096) ∧ w = wr) (fun _ _ i _ => l.length - (intOf i).toNat)
    case atStart => exact ⟨0, by omega, rfl, rfl, fun x h => by simp at h, rfl⟩
    case round =>
      obtain ⟨k, hk, rfl, rfl, hx, rfl⟩ := hrel
      by_cases hlt : k < l.length
      · obtain ⟨b, off, Ai, ci, rfl, hB, hc, hBi, hli, hmi⟩ := hl.at_ hlt
        have hen := encF_take l k hlt
        have hpre := encF_take_le l (k + 1)
        have hlen : (encF (l.take (k + 1))).length = (encF (l.take k)).length + (8 + l[k].length) := by rw [hen, List.length_append, fr_len]
        have hxs : l[k].length ≤ 4096 → ∀ x ∈ l.take (k + 1), x.length ≤ 4096 := by
          intro h x hxm
          rw [List.take_succ_eq_append_getElem hlt] at hxm
          rcases List.mem_append.1 hxm with h' | h'
          · exact hx x h'
          · rw [List.mem_singleton.1 h']; exact h
        have HL := Lib.hid hlen
        clear hen hlen hx
        have hbd : bs.length + (encF (l.take k)).length + 8 + l[k].length ≤ 1099511627776 := by have := HL.out; omega
        generalize l[k] = z at hc hBi hli HL hxs hbd
        by_cases hz : 4096 < z.length
        · clear HL hxs
          go_wp2_with fail
          go_ret2
          exact ⟨none, 0, 0, rfl, rfl, OwnB.nil_ _ _ _, Below.refl _ _⟩
        · go_wp2_with fail
          go_roundw
          case rel => exact ⟨k + 1, by omega, by go_num, by have := HL.out; go_num, hxs (by omega), trivial⟩
          case measure => simp [intOf]; omega
      · obtain rfl : k = l.length := by omega
        rw [List.take_length] at hx
        have := okF_all hx
        rw [HO.out] at this
        cases this
  | true =>
    have h1 : putFE l = 0 := by unfold putFE; rw [hok]; rfl
    have h2 : putFB bs l = bs ++ encF l := by unfold putFB; rw [hok]; rfl
    rw [h1, h2]
    clear h1 h2
    have HO := Lib.hid (okF_yes hok)
    clear hok
    go_enter Try.func36, Try.ntmps36
    go_wp2_with fail
    go_loopw [6, 8, 16] (fun s _ i wr => ∃ k : Nat, k ≤ l.length ∧ i = .int .i64 k ∧ s = .int .i64 ((bs.length + (encF (l.take k)).length : Nat) : Int) ∧ w = wr) (fun _ _ i _ => l.length - (intOf i).toNat)
    case atStart => exact ⟨0, by omega, rfl, rfl, rfl⟩
    case round =>
      obtain ⟨k, hk, rfl, rfl, rfl⟩ := hrel
      by_cases hlt : k < l.length
      · obtain ⟨b, off, Ai, ci, rfl, hB, hc, hBi, hli, hmi⟩ := hl.at_ hlt
        have hen := encF_take l k hlt
        have hpre := encF_take_le l (k + 1)
        have hlen : (encF (l.take (k + 1))).length = (encF (l.take k)).length + (8 + l[k].length) := by rw [hen, List.length_append, fr_len]
        have hz : ¬ 4096 < l[k].length := by have := HO.out l[k] (List.getElem_mem hlt); omega
        have HL := Lib.hid hlen
        clear hen hlen
        have hbd : bs.length + (encF (l.take k)).length + 8 + l[k].length ≤ 1099511627776 := by have := HL.out; omega
        generalize l[k] = z at hc hBi hli HL hz hbd
        go_wp2_with fail
        go_roundw
        case rel => exact ⟨k + 1, by omega, by go_num, by have := HL.out; go_num, trivial⟩
        case measure => simp [intOf]; omega
      · obtain rfl : k = l.length := by omega
        have hmk := make_cap w (bs.length + (encF l).length) (by omega)
        rw [Int.natCast_add] at hmk
        have hoc := own_cap w (bs.length + (encF l).length) (by omega)
        have hbo := (Below.refl w.heap.size w).alloc (Nat.le_refl _) (.cells (bv (List.replicate (bs.length + (encF l).length) 0)).toArray 5)
        rw [List.take_length]
        generalize hW : w.alloc (.cells (bv (List.replicate (bs.length + (encF l).length) 0)).toArray 5) = W1 at hmk hoc hbo
        have HW := Lib.hid hW
        clear hW
        have hs1 := hbo.size
        have y1 := Reads.more (Reads.below hb hbo) hs1
        go_wp2_with (at_builtin; refine wpList_ap2 rfl _ _ rfl rfl w.heap.size (.slice (some ⟨w.heap.size, 0, none⟩) 0 (bs.length + (encF l).length)) [] bs bs W1.heap.size A bs.length c rfl rfl rfl rfl hoc y1 (by simp; omega) w hbo hs1 ?_; intro A3 c3 n3 W3 e3 h3 hB3 hl3 hbel3 hs3 hg3; clear hB3 hg3 hl3)
        have e3' : n3 = bs.length := e3.out
        have E3 := Lib.hid e3'
        clear e3 e3' hmk hoc hbo y1 hs1 HW
        go_loopw [9, 11, 35] (fun v _ i wr => ∃ k : Nat, k ≤ l.length ∧ i = .int .i64 k ∧ ∃ A' n' c', v = .slice A' n' c' ∧ Hid (n' = (bs ++ encF (l.take k)).length) ∧ OwnB wr w.heap.size 5 (.slice A' n' c') (bs ++ encF (l.take k)) ∧ Below w.heap.size w wr) (fun _ _ i _ => l.length - (intOf i).toNat)
        case atStart => exact ⟨0, by omega, rfl, A3, n3, c3, rfl, by simpa [encF] using E3, by simpa [encF] using h3, hbel3⟩
        case round =>
          clear h3 hbel3 hs3 E3
          obtain ⟨k, hk, rfl, A1, n1, c1, rfl, e1, hown, hbw⟩ := hrel
          have hsz := hbw.size
          by_cases hlt : k < l.length
          · obtain ⟨b, off, Ai, ci, rfl, hB, hcw, hBw, hli, hmi⟩ := hl.at_ hlt
            have hc := (hbw.cell (p := ⟨b, off + k, none⟩) hB).trans hcw
            have hBi := Reads.more (Reads.below hBw hbw) hsz
            clear hcw
            have hz := HO.out l[k] (List.getElem_mem hlt)
            have hap := putFB_app bs l[k] l k hlt rfl
            have hpre := encF_take_le l (k + 1)
            have hlen : (bs ++ encF (l.take (k + 1))).length ≤ 1099511627776 := by rw [List.length_append]; omega
            have hlen1 : (bs ++ encF (l.take k)).length ≤ 1099511627776 := by have := encF_take_le l k; rw [List.length_append]; omega
            clear hpre
            generalize l[k] = z at hc hBi hBw hli hz hap
            obtain ⟨T2, hT2⟩ : ∃ T2, T2 = bs ++ encF (l.take (k + 1)) := ⟨_, rfl⟩
            rw [← hT2] at hap hlen
            have HT2 := Lib.hid hT2
            clear hT2
            generalize bs ++ encF (l.take k) = T1 at e1 hown hap hlen1
            have HAP := Lib.hid hap
            clear hap
            go_wp2_with fail
            refine (head_any Ai z.length ci z wr hBi rfl hz).mono ?_
            rintro e w2 ⟨A2, n2, c2, rfl, hn2, hown2, hb2⟩
            have N2 := Lib.hid hn2
            clear hn2
            have hs2 := hb2.size
            have x2 := (own_open hown2).1
            have hownB := own_below hown hb2
            have hbB := hbw.trans (hb2.mono hsz)
            have hsB := hbB.size
            have hh8 : (hd z).length = 8 := hd_len z
            have H8 := Lib.hid hh8
            clear hown hown2 hb2 hh8 hbw hBi
            go_wp2_with (first
              | (at_builtin; refine wpList_ap2 rfl _ _ rfl rfl w.heap.size (.slice A1 n1 c1) T1 (hd z) (T1 ++ hd z) w2.heap.size A2 n2 c2 rfl rfl N2.out rfl hownB x2 (by rw [H8.out]; omega) w hbB hsB ?_; intro A4 c4 n4 W4 e4 h4 hB4 hl4 hbel4 hs4 hg4; clear hB4 hl4 hg4)
              | (at_builtin; refine wpList_ap2 rfl _ _ rfl rfl w.heap.size (.slice A4 n4 c4) (T1 ++ hd z) z T2 W4.heap.size Ai z.length ci rfl rfl rfl HAP.out h4 (Reads.more (Reads.below hBw hbel4) hs4) (by rw [List.length_append, H8.out]; omega) w hbel4 hs4 ?_; intro A5 c5 n5 W5 e5 h5 hB5 hl5 hbel5 hs5 hg5; clear hB5 hl5 hg5))
            go_roundw
            case rel => exact ⟨k + 1, by omega, by go_num, A5, n5, c5, rfl, by rw [← HT2.out]; exact e5, by rw [← HT2.out]; exact h5, hbel5⟩
            case measure => simp [intOf]; omega
          · obtain rfl : k = l.length := by omega
            rw [List.take_length] at e1 hown
            go_wp2_with fail
            go_ret2
            exact ⟨A1, n1, c1, rfl, e1.out, hown, hbw⟩
end Go.Proofs.Ytnnhkanjneecjaa
