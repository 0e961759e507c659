import Derived.Test.YtjihbjjekhncaaaEvU
namespace Go.Proofs.Ytjihbjjekhncaaa
open Go.RowKit
/-! events and their bytes. -/
theorem vl_num (l : List UInt8) : vl l = num l := rfl
theorem ofNat_mod (x : Nat) : UInt8.ofNat (x % 256) = UInt8.ofNat x := by
  apply UInt8.toNat_inj.1; simp
theorem be8_eq (n : Nat) : be 8 n = be8 n := by
  simp [be, be8, nb, List.range_succ, ofNat_mod]
theorem be1_eq (n : Nat) : be 1 n = [UInt8.ofNat n] := by simp [be, nb, List.range_succ]
theorem vl_be8 (n : Nat) (h : n ≤ 18446744073709551615) : vl (be 8 n) = n := by rw [be8_eq, vl_num, num_be8 n (by omega)]
theorem vl_be1 (n : Nat) (h : n ≤ 255) : vl (be 1 n) = n := by
  rw [be1_eq]; simp [vl]; omega
theorem be8_vl (l : List UInt8) (h : l.length = 8) : be 8 (vl l) = l := by rw [be8_eq, vl_num, be8_num' l h]
theorem be1_vl (l : List UInt8) (h : l.length = 1) : be 1 (vl l) = l := by
  match l, h with
  | [c], _ => rw [be1_eq]; simp [vl]
theorem take_app (xs ys : List UInt8) (k : Nat) (h : xs.length = k) : (xs ++ ys).take k = xs := by subst h; simp
theorem drop_app (xs ys : List UInt8) (k : Nat) (h : xs.length = k) : (xs ++ ys).drop k = ys := by subst h; simp
theorem evB_r (e : Ev) : evB e = be 1 e.o.toNat ++ (be 8 e.s ++ (bytesV e.d ++ (be 1 e.k ++ (be 8 e.n ++ (be 1 e.t.toNat ++ (be 8 e.a.toNat ++ (be 8 e.r ++ be 8 e.f))))))) := by simp [evB, List.append_assoc]
/-- what was put is taken. -/
theorem ofB_evB {e : Ev} (h : e.ok) (hm : mayE e = true) : ofB (evB e) = e := by
  obtain ⟨⟨o1, o2⟩, k1, ⟨t1, t2⟩, ⟨a1, a2⟩, _, _⟩ := may_facts hm
  have hd : (bytesV e.d).length = 48 := by rw [bytesV_len, h.d6]
  have l1 : ∀ n, (be 1 n).length = 1 := be_len 1
  have l8 : ∀ n, (be 8 n).length = 8 := be_len 8
  rw [evB_r]
  unfold ofB
  simp only [take_app _ _ 1 (l1 _), drop_app _ _ 1 (l1 _), take_app _ _ 8 (l8 _), drop_app _ _ 8 (l8 _), take_app _ _ 48 hd, drop_app _ _ 48 hd]
  rw [show (be 8 e.f).take 8 = be 8 e.f from List.take_of_length_le (by rw [l8]; omega)]
  refine Ev.ext' ?_ (vl_be8 _ h.s) ?_ (vl_be1 _ (by omega)) (vl_be8 _ h.n) ?_ ?_ (vl_be8 _ h.r) (vl_be8 _ h.f)
  · show ((vl (be 1 e.o.toNat) : Nat) : Int) = e.o
    rw [vl_be1 _ (by omega)]; omega
  · have := ofV_bytes e.d (fun n hn => by have := h.d n hn; omega)
    rwa [h.d6] at this
  · show ((vl (be 1 e.t.toNat) : Nat) : Int) = e.t
    rw [vl_be1 _ (by omega)]; omega
  · show IntKind.i64.wrap ((vl (be 8 e.a.toNat) : Nat) : Int) = e.a
    rw [vl_be8 _ (by omega), IntKind.wrap_i64]; omega
/-- what is taken is put as it stood. -/
theorem evB_ofB (r : List UInt8) (h : r.length = 91) (hm : mayE (ofB r) = true) : evB (ofB r) = r := by
  obtain ⟨⟨o1, o2⟩, k1, ⟨t1, t2⟩, ⟨a1, a2⟩, _, _⟩ := may_facts hm
  have ha : (ofB r).a.toNat = vl ((((((((r.drop 1).drop 8).drop 48).drop 1).drop 8).drop 1)).take 8) := by
    have h1 := vl_eight ((((((r.drop 1).drop 8).drop 48).drop 1).drop 8).drop 1)
    have h2 : (ofB r).a = IntKind.i64.wrap ((vl ((((((((r.drop 1).drop 8).drop 48).drop 1).drop 8).drop 1)).take 8) : Nat) : Int) := rfl
    rw [h2] at a1 a2 ⊢
    rw [IntKind.wrap_i64] at a1 a2 ⊢
    omega
  rw [evB_r, ha]
  have ho : (ofB r).o.toNat = vl (r.take 1) := rfl
  have hs : (ofB r).s = vl ((r.drop 1).take 8) := rfl
  have hdd : (ofB r).d = ofV (((r.drop 1).drop 8).take 48) 6 := rfl
  have hk : (ofB r).k = vl ((((r.drop 1).drop 8).drop 48).take 1) := rfl
  have hn : (ofB r).n = vl (((((r.drop 1).drop 8).drop 48).drop 1).take 8) := rfl
  have ht : (ofB r).t.toNat = vl ((((((r.drop 1).drop 8).drop 48).drop 1).drop 8).take 1) := rfl
  have hr : (ofB r).r = vl ((((((((r.drop 1).drop 8).drop 48).drop 1).drop 8).drop 1).drop 8).take 8) := rfl
  have hf : (ofB r).f = vl (((((((((r.drop 1).drop 8).drop 48).drop 1).drop 8).drop 1).drop 8).drop 8).take 8) := rfl
  rw [ho, hs, hdd, hk, hn, ht, hr, hf]
  rw [be1_vl _ (by simp; omega), be8_vl _ (by simp; omega), bytes_ofV 6 _ (by simp; omega), be1_vl _ (by simp; omega), be8_vl _ (by simp; omega), be1_vl _ (by simp; omega), be8_vl _ (by simp; omega), be8_vl _ (by simp; omega), be8_vl _ (by simp; omega)]
  rw [show (((((((((r.drop 1).drop 8).drop 48).drop 1).drop 8).drop 1).drop 8).drop 8).take 8) = ((((((((r.drop 1).drop 8).drop 48).drop 1).drop 8).drop 1).drop 8).drop 8) from List.take_of_length_le (by simp; omega)]
  simp only [List.take_append_drop]
theorem evB_inj {e g : Ev} (h : e.ok) (h' : g.ok) (hm : mayE e = true) (hm' : mayE g = true) (he : evB e = evB g) : e = g := by
  rw [← ofB_evB h hm, he, ofB_evB h' hm']
/-- of a place where an event stands whole. -/
theorem takeE_ok {bs : List UInt8} {a : Nat} (h : a + 91 ≤ bs.length) (hm : mayE (ofB ((bs.drop a).take 91)) = true) : takeE bs (a : Int) = (ofB ((bs.drop a).take 91), (a : Int) + 91, 0) := by
  unfold takeE
  rw [if_neg (by omega), if_neg (by omega), Int.toNat_natCast, if_pos hm]
theorem takeE_no {bs : List UInt8} {a : Nat} (h : a + 91 ≤ bs.length) (hm : mayE (ofB ((bs.drop a).take 91)) = false) : takeE bs (a : Int) = (E0, 0, 5) := by
  unfold takeE
  rw [if_neg (by omega), if_neg (by omega), Int.toNat_natCast, if_neg (by rw [hm]; simp)]
theorem takeE_short {bs : List UInt8} {a : Nat} (h : a ≤ bs.length) (h2 : bs.length < a + 91) : takeE bs (a : Int) = (E0, 0, 5) := by
  unfold takeE
  rw [if_neg (by omega), if_pos (by omega)]
theorem takeE_put {e : Ev} (h : e.ok) (hm : mayE e = true) : takeE (evB e) 0 = (e, 91, 0) := by
  have hl := evB_len h.d6
  have ht : ((evB e).drop 0).take 91 = evB e := by rw [List.drop_zero, List.take_of_length_le (by omega)]
  have := takeE_ok (bs := evB e) (a := 0) (by omega) (by rw [ht, ofB_evB h hm]; exact hm)
  rw [ht, ofB_evB h hm] at this
  exact this
/-- an event's number. -/
def idE (e : Ev) : Int := if regE e.o = true then (e.o * 1099511627776 + (e.s : Int)) % 18446744073709551616 else 0
theorem idE_may {e : Ev} (hm : mayE e = true) : idE e = e.o * 1099511627776 + (e.s : Int) := by
  obtain ⟨⟨o1, o2⟩, _, _, _, ⟨s1, s2⟩, _⟩ := may_facts hm
  unfold idE
  rw [if_pos (by simp [regE, o1, o2])]
  omega
theorem idE_eq {e g : Ev} (hm : mayE e = true) (hm' : mayE g = true) : idE e = idE g ↔ e.o = g.o ∧ e.s = g.s := by
  obtain ⟨⟨o1, o2⟩, _, _, _, ⟨s1, s2⟩, _⟩ := may_facts hm
  obtain ⟨⟨o3, o4⟩, _, _, _, ⟨s3, s4⟩, _⟩ := may_facts hm'
  rw [idE_may hm, idE_may hm']
  omega
end Go.Proofs.Ytjihbjjekhncaaa
