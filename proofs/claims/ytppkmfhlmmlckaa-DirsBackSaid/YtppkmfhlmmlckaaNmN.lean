/-
  Bytes and entries lead back (mathematics).
-/
import Derived.Test.YtppkmfhlmmlckaaNmH
import Derived.Test.YtppkmfhlmmlckaaNmK
namespace Go.Proofs.Ytppkmfhlmmlckaa.nm
set_option maxRecDepth 100000
open Go.RowKit Go.Maps
set_option maxRecDepth 100000

theorem put_two (a b : UInt8) : putL [0, 0] 0 (a.toNat + 256 * b.toNat) 2 = [a, b] := by
  have e : putL [0, 0] 0 (a.toNat + 256 * b.toNat) 2 = [UInt8.ofNat (a.toNat + 256 * b.toNat), UInt8.ofNat ((a.toNat + 256 * b.toNat) / 256)] := by
    simp [putL]
  have ha := a.toNat_lt
  have hb := b.toNat_lt
  rw [e, show (a.toNat + 256 * b.toNat) / 256 = b.toNat by omega]
  have e1 : UInt8.ofNat (a.toNat + 256 * b.toNat) = a := by
    apply UInt8.toNat_inj.1
    rw [UInt8.toNat_ofNat']
    omega
  rw [e1, UInt8.ofNat_toNat]
theorem num_two (a b : UInt8) (t : List UInt8) : numAt (a :: b :: t) 0 2 = a.toNat + 256 * b.toNat := by
  unfold numAt
  simp [leNum]
theorem num_app (p q : List UInt8) (k : Nat) : numAt (p ++ q) p.length k = numAt q 0 k := by
  unfold numAt
  rw [List.drop_left, List.drop_zero]
theorem put_form (N : Nat) : ∃ a b, putL [0, 0] 0 N 2 = [a, b] := by
  have h : (putL [0, 0] 0 N 2).length = 2 := by rw [putL_length]; rfl
  match hp : putL [0, 0] 0 N 2, h with
  | [a, b], _ => exact ⟨a, b, rfl⟩
theorem text_back (s : ByteArray) : (⟨s.toList.toArray⟩ : ByteArray) = s := by
  rw [toL]
theorem prL_cons (x : Nm) (r : List Nm) : prL (x :: r) = enB x ++ prL r := by
  unfold prL
  rw [List.flatMap_cons]
/-- 7.3: a directory is read from its bytes as it was. -/
theorem par_pr : ∀ (l : List Nm) (c f : Nat), (∀ x ∈ l, itB x = true) → c + l.length ≤ 257 → (prL l).length ≤ f → parG f (prL l) c = some l
  | [], c, f, _, _, _ => parG_end f c
  | x :: r, c, f, h, hc, hf => by
    obtain ⟨xs, xi⟩ := x
    have hit := h (xs, xi) (by simp)
    have hn1 : nmB xs = true := (Bool.and_eq_true_iff.1 hit).1
    have hi1 : inB xi = true := (Bool.and_eq_true_iff.1 hit).2
    have hsz : xs.size ≤ 32 := by
      unfold nmB at hn1
      simp at hn1
      omega
    have hxi : 0 ≤ xi ∧ xi ≤ 65535 := by
      unfold inB at hi1
      simpa using hi1
    obtain ⟨N, rfl⟩ : ∃ N : Nat, xi = (N : Int) := ⟨xi.toNat, by omega⟩
    obtain ⟨a, b, hab⟩ := put_form N
    have hnum : a.toNat + 256 * b.toNat = N := by
      have h1 := putL_num [0, 0] 0 N 2 (by simp)
      rw [hab, num_two] at h1
      omega
    have he : prL ((xs, (N : Int)) :: r) = UInt8.ofNat xs.size :: (xs.toList ++ (a :: b :: prL r)) := by
      rw [prL_cons]
      unfold enB
      show (UInt8.ofNat xs.size :: (xs.toList ++ putL [0, 0] 0 N 2)) ++ prL r = _
      rw [hab]
      simp
    have hu : (UInt8.ofNat xs.size).toNat = xs.size := by rw [UInt8.toNat_ofNat']; omega
    have htl := toL_length xs
    rw [he] at hf ⊢
    cases f with
    | zero => simp at hf
    | succ f =>
      rw [List.length_cons, List.length_append, List.length_cons, List.length_cons] at hf
      rw [List.length_cons] at hc
      rw [parG, hu, if_neg (by rw [List.length_append, List.length_cons, List.length_cons]; omega)]
      have h1 : (xs.toList ++ (a :: b :: prL r)).drop (xs.size + 2) = prL r := by
        rw [← htl, List.drop_append]
        simp
      have h2 : (xs.toList ++ (a :: b :: prL r)).take xs.size = xs.toList := by rw [← htl, List.take_left]
      have h3 : numAt (xs.toList ++ (a :: b :: prL r)) xs.size 2 = N := by rw [← htl, num_app, num_two, hnum]
      rw [h1, h2, h3, par_pr r (c + 1) f (fun y hy => h y (by simp [hy])) (by omega) (by omega), text_back]
      rfl
/-- .. and bytes that are one are told again as they were. -/
theorem pr_par : ∀ (f : Nat) (r : List UInt8) (c : Nat) (l : List Nm), parG f r c = some l → prL l = r
  | f, [], c, l, h => by
    rw [parG_end] at h
    cases h
    rfl
  | 0, _ :: _, c, l, h => by cases h
  | f + 1, x :: r, c, l, h => by
    rw [parG] at h
    by_cases hc : r.length < x.toNat + 2 ∨ 256 < c
    · rw [if_pos hc] at h; cases h
    rw [if_neg hc] at h
    obtain ⟨t, ht, rfl⟩ := Option.map_eq_some_iff.1 h
    have ih := pr_par f _ _ _ ht
    have hl : x.toNat + 2 ≤ r.length := by omega
    have hd : (r.drop x.toNat).length = r.length - x.toNat := List.length_drop
    match hq : r.drop x.toNat, hd with
    | [], hd => simp at hd; omega
    | [_], hd => simp at hd; omega
    | a :: b :: q, _ =>
      have h2 : r.drop (x.toNat + 2) = q := by rw [← List.drop_drop, hq]; rfl
      have h3 : numAt r x.toNat 2 = a.toNat + 256 * b.toNat := by
        unfold numAt
        rw [hq]
        simp [leNum]
      have h4 : (r.take x.toNat).length = x.toNat := by rw [List.length_take]; omega
      have hsz : (⟨(r.take x.toNat).toArray⟩ : ByteArray).size = x.toNat := by
        show (r.take x.toNat).toArray.size = _
        simp
        omega
      rw [prL_cons, ih, h2]
      unfold enB
      show (UInt8.ofNat (⟨(r.take x.toNat).toArray⟩ : ByteArray).size :: ((⟨(r.take x.toNat).toArray⟩ : ByteArray).toList ++ putL [0, 0] 0 (numAt r x.toNat 2) 2)) ++ q = _
      rw [hsz, UInt8.ofNat_toNat, h3, put_two, toL]
      show x :: ((r.take x.toNat) ++ [a, b]) ++ q = x :: r
      rw [List.cons_append, List.append_assoc]
      congr 1
      have h5 := List.take_append_drop x.toNat r
      rw [hq] at h5
      exact h5
/-- Print's answer is parsed, for a directory. -/
theorem back_l {l : List Nm} (h : RightN l) : parP (prL l) = some l := by
  unfold parP
  exact par_pr l 0 _ (fun x hx => by obtain ⟨i, hi⟩ := List.mem_iff_getElem?.1 hx; exact (h.1 i x (List.getElem?_eq_some_iff.1 hi).1 hi).1) (by have := h.2; omega) (Nat.le_refl _)
theorem back_b {b : List UInt8} {l : List Nm} (h : parP b = some l) : prL l = b := pr_par _ _ _ _ h
end Go.Proofs.Ytppkmfhlmmlckaa.nm
