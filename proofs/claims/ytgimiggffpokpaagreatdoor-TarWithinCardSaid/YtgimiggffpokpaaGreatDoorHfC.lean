/-
  The library's TrimLeft; the program's Octal and Empty.
-/
import Derived.Test.YtgimiggffpokpaaGreatDoorHfB
import Derived.Test.YtgimiggffpokpaaGreatDoorShelf
namespace Go.Proofs.YtgimiggffpokpaaGreatDoor.he
set_option maxRecDepth 100000
open Go.RowKit Go.Maps
set_option maxRecDepth 100000

/-! ### TrimLeft -/
theorem u8_all {p : UInt8 → Bool} (h : ∀ n : Fin 256, p (UInt8.ofNat n.val) = true) (x : UInt8) : p x = true := by
  have := h ⟨x.toNat, x.toNat_lt⟩
  rwa [show UInt8.ofNat x.toNat = x from UInt8.ofNat_toNat] at this
theorem cut_blank : (fun x : UInt8 => ([32] : Bts).contains x) = fun x => decide (x = 32) := funext fun x => beq_iff_eq.1 (u8_all (p := fun x => ([32] : Bts).contains x == decide (x = 32)) (by decide +kernel) x)
theorem cut_digit : (fun x : UInt8 => ([48, 49, 50, 51, 52, 53, 54, 55] : Bts).contains x) = isD := funext fun x => beq_iff_eq.1 (u8_all (p := fun x => ([48, 49, 50, 51, 52, 53, 54, 55] : Bts).contains x == isD x) (by decide +kernel) x)
theorem cut_end : (fun x : UInt8 => ([32, 0] : Bts).contains x) = endB := funext fun x => beq_iff_eq.1 (u8_all (p := fun x => ([32, 0] : Bts).contains x == endB x) (by decide +kernel) x)
theorem cut_nought : (fun x : UInt8 => ([0] : Bts).contains x) = fun x => decide (x = 0) := funext fun x => beq_iff_eq.1 (u8_all (p := fun x => ([0] : Bts).contains x == decide (x = 0)) (by decide +kernel) x)
/-- What TrimLeft answers: the bytes r, where they lay. -/
def TrimA (B : Nat) (r : Bts) (w : World) (e : Ending) (w' : World) : Prop := ∃ A' n' c', e = .returned (.slice A' n' c') ∧ n' = r.length ∧ Rd w' B A' r ∧ (A' = none → c' = 0) ∧ n' ≤ c' ∧ c' ≤ maxLen ∧ Fr (fun _ => False) w w'
theorem ptrim {p : UInt8 → Bool} {cs : Bts} (hp : (fun x : UInt8 => cs.contains x) = p) (hcs : (tx cs).size < 4294967281) (hasc : ∀ x ∈ cs, x.toNat < 128) (w : World) (A : Option Addr) (B n cap : Nat) (l : Bts) (hr : Rd w B A l) (hB : B ≤ w.heap.size) (hA : A = none → cap = 0) (hn : n = l.length) (hc : n ≤ cap) (hm : cap ≤ maxLen) :
    Calls Tryz.prog 29 #[.slice A n cap, .string (tx cs)] w (TrimA B (l.dropWhile p) w) := by
  have hm2 : maxLen ≤ 9223372036854775807 := by decide
  have hz := zero_of_info (P := Tryz.prog) (t := Tryz.trimL_ren.t 27) (v := .agg (Array.replicate 256 (.bool false))) (n := 256) (by kernel_rfl)
  have H := Any.bytes_TrimLeft_ascii Tryz.trimL hz.1 hz.2 A n cap l (tx cs) w hn.symm hc (by omega) (fun h0 => by
    obtain ⟨blk, off, e, _, hcell⟩ := hr (by intro e; rw [e] at hn; simp at hn; omega)
    refine ⟨blk, off, e, fun i hi => ?_⟩
    rw [hcell i _ (List.getElem?_eq_getElem (by omega)), List.getD_eq_getElem?_getD, List.getElem?_eq_getElem (by omega)]
    rfl) hcs (fun j b hj => hasc b (List.mem_of_getElem? (show cs[j]? = some b from hj)))
  have hdw : Lib.trimLeftS l (tx cs).data.toList = l.dropWhile p := by rw [← hp]; rfl
  rw [hdw] at H
  refine H.mono ?_
  rintro e w' ⟨rfl, hbl⟩
  have hF : Fr (fun _ => False) w w' := Fr.ofBelow hbl (fun i hi _ => hi)
  have hsuf := List.suffix_iff_eq_drop.1 (List.dropWhile_suffix p : l.dropWhile p <:+ l)
  have hle : (l.dropWhile p).length ≤ l.length := (List.dropWhile_suffix p).length_le
  rw [← hn] at hsuf hle
  unfold Lib.leftV
  by_cases h0 : n - (l.dropWhile p).length = n
  · rw [if_pos h0]
    by_cases hn0 : n = 0
    · have e : l.dropWhile p = [] := List.eq_nil_of_length_eq_zero (by omega)
      rw [e]
      exact ⟨none, 0, 0, rfl, rfl, Rd.nil _ _ _, fun _ => rfl, Nat.le_refl _, Nat.zero_le _, hF⟩
    · have e : l.dropWhile p = [] := List.eq_nil_of_length_eq_zero (by omega)
      rw [e]
      exact ⟨none, 0, 0, rfl, rfl, Rd.nil _ _ _, fun _ => rfl, Nat.le_refl _, Nat.zero_le _, hF⟩
  · rw [if_neg h0]
    unfold Lib.fromV
    refine ⟨_, _, _, rfl, by omega, ?_, fun e => ?_, by omega, by omega, hF⟩
    · have h1 := (hr.still hF hB).drop (k := n - (l.dropWhile p).length) (show l.length ≤ cap by omega)
      rw [← hsuf] at h1
      exact h1
    · split at e
      · exact absurd e (by omega)
      · cases A with
        | none => have := hA rfl; omega
        | some a => cases e

/-! ### Octal -/
theorem take_dw {p : UInt8 → Bool} (l : Bts) : l.take (l.length - (l.dropWhile p).length) = l.takeWhile p ∧ (l.takeWhile p).length = l.length - (l.dropWhile p).length := by
  have h := List.takeWhile_append_dropWhile (p := p) (l := l)
  have h2 : (l.takeWhile p).length + (l.dropWhile p).length = l.length := by rw [← List.length_append, h]
  have h3 : l.length - (l.dropWhile p).length = (l.takeWhile p).length := by omega
  refine ⟨?_, h3.symm⟩
  rw [h3]
  conv => lhs; arg 2; rw [← h]
  exact List.take_left
theorem dw_nil {p : UInt8 → Bool} : ∀ l : Bts, l.dropWhile p = [] ↔ ∀ x ∈ l, p x = true
  | [] => by simp
  | y :: l => by
    rw [List.dropWhile_cons]
    split
    · rename_i h
      rw [dw_nil l]
      constructor
      · intro k x hx
        rcases List.mem_cons.1 hx with rfl | hx
        · exact h
        · exact k x hx
      · exact fun k x hx => k x (List.mem_cons_of_mem _ hx)
    · rename_i h
      constructor
      · intro e; cases e
      · intro k; exact absurd (k y (List.mem_cons_self)) h
theorem take_while_take {p : UInt8 → Bool} : ∀ (k : Nat) (l : Bts), (l.take k).takeWhile p = (l.takeWhile p).take k
  | 0, l => by simp
  | k + 1, [] => by simp
  | k + 1, x :: l => by
    rw [List.take_succ_cons, List.takeWhile_cons, List.takeWhile_cons]
    split
    · rw [List.take_succ_cons, take_while_take k l]
    · simp
/-- Octal in the program's words. -/
theorem octal_by (b : Bts) : octalV b = if ((skipB b).takeWhile isD).length = 0 ∨ 11 < ((skipB b).takeWhile isD).length ∨ (skipB b).dropWhile isD = [] ∨ ((skipB b).dropWhile isD).dropWhile endB ≠ [] then (0, 130) else ((num8 ((skipB b).takeWhile isD) : Int), 0) := by
  have hd : digB b = ((skipB b).takeWhile isD).take 12 := take_while_take 12 _
  have hl : (digB b).length = min 12 ((skipB b).takeWhile isD).length := by rw [hd, List.length_take]
  by_cases h12 : 11 < ((skipB b).takeWhile isD).length
  · unfold octalV
    rw [if_pos (Or.inr (Or.inl (by omega))), if_pos (Or.inr (Or.inl h12))]
  · have hd2 : digB b = (skipB b).takeWhile isD := by rw [hd]; exact List.take_of_length_le (by omega)
    have hr : (skipB b).drop (digB b).length = (skipB b).dropWhile isD := by
      have h := List.takeWhile_append_dropWhile (p := isD) (l := skipB b)
      rw [hd2]
      conv => lhs; arg 2; rw [← h]
      exact List.drop_left
    have he : ((skipB b).dropWhile isD).all endB = false ↔ ((skipB b).dropWhile isD).dropWhile endB ≠ [] := by
      generalize (skipB b).dropWhile isD = r
      rw [← Bool.not_eq_true, List.all_eq_true, Ne, dw_nil]
    unfold octalV
    rw [hr, hd2]
    by_cases hc : ((skipB b).takeWhile isD).length = 0 ∨ 11 < ((skipB b).takeWhile isD).length ∨ (skipB b).dropWhile isD = [] ∨ ((skipB b).dropWhile isD).dropWhile endB ≠ []
    · rw [if_pos hc, if_pos]
      rcases hc with h | h | h | h
      · exact Or.inl (by omega)
      · exact Or.inr (Or.inl h)
      · exact Or.inr (Or.inr (Or.inl h))
      · exact Or.inr (Or.inr (Or.inr (he.2 h)))
    · rw [if_neg hc, if_neg]
      rintro (h | h | h | h)
      · exact hc (Or.inl (by omega))
      · exact hc (Or.inr (Or.inl h))
      · exact hc (Or.inr (Or.inr (Or.inl h)))
      · exact hc (Or.inr (Or.inr (Or.inr (he.1 h))))
set_option maxHeartbeats 4000000 in
theorem poctal (w : World) (A : Option Addr) (cap : Nat) (b : Bts) (hr : Rd w w.heap.size A b) (hA : A = none → cap = 0) (hc : b.length ≤ cap) (hb : b.length ≤ 140737488351232) (hm : cap ≤ maxLen) :
    Calls Tryz.prog 44 #[.slice A b.length cap] w fun e w' => e = .returned (.tuple #[.int .i64 (octalV b).1, .int .i64 (octalV b).2]) ∧ Fr (fun _ => False) w w' := by
  have H1 := Lib.hid (ptrim cut_blank (by decide) (by decide) w A w.heap.size b.length cap b hr (Nat.le_refl _) hA rfl hc hm)
  have HV := Lib.hid (octal_by b)
  have hsl : (skipB b).length ≤ b.length := (List.dropWhile_suffix _).length_le
  have h2l : ((skipB b).dropWhile isD).length ≤ (skipB b).length := (List.dropWhile_suffix _).length_le
  have H1 := Lib.hid (show Calls Tryz.prog 29 #[.slice A b.length cap, .string ⟨#[32]⟩] w (TrimA w.heap.size (skipB b) w) from H1.out)
  obtain ⟨n, hn⟩ : ∃ n, n = b.length := ⟨_, rfl⟩
  rw [← hn] at H1 hb hsl ⊢
  obtain ⟨V, hV⟩ : ∃ v, v = (octalV b).1 := ⟨_, rfl⟩
  obtain ⟨Z, hZ⟩ : ∃ v, v = (octalV b).2 := ⟨_, rfl⟩
  rw [← hV, ← hZ]
  have HVZ := Lib.hid (⟨hV, hZ⟩ : _ ∧ _)
  have HTW := Lib.hid (take_dw (p := isD) (skipB b))
  obtain ⟨r1, hr1⟩ : ∃ r, r = skipB b := ⟨_, rfl⟩
  rw [← hr1] at H1 HV hsl h2l HTW
  clear hr hA hc hm hn hV hZ hr1
  go_enter Tryz.func44, Tryz.ntmps44
  go_wp2_with fail
  refine H1.out.mono ?_
  intro e w1 hP
  obtain ⟨A1, n1, c1, rfl, hn1, hr1, hA1, hc1, hm1, hF1⟩ := hP
  have H2 := Lib.hid (ptrim cut_digit (by decide) (by decide) w1 A1 w.heap.size n1 c1 r1 hr1 hF1.size hA1 hn1 hc1 hm1)
  have H2 := Lib.hid (show Calls Tryz.prog 29 #[.slice A1 n1 c1, .string ⟨#[48, 49, 50, 51, 52, 53, 54, 55]⟩] w1 (TrimA w.heap.size (r1.dropWhile isD) w1) from H2.out)
  have HR1 := Lib.hid (⟨hr1, hF1, hn1⟩ : _ ∧ _ ∧ _)
  have HN1 := Lib.hid hn1
  rw [← hn1] at hsl h2l HTW
  clear H1 hr1 hA1 hF1 hn1 hm1
  go_wp2_with fail
  refine H2.out.mono ?_
  intro e w2 hP
  obtain ⟨A2, n2, c2, rfl, hn2, hr2, hA2, hc2, hm2, hF2⟩ := hP
  rw [← hn2] at h2l HTW
  have HR2 := Lib.hid (⟨HR1.out.1.still hF2 HR1.out.2.1.size, HR1.out.2.1.trans hF2 (fun _ _ e => e), hn2⟩ : _ ∧ _ ∧ _)
  have H3 := Lib.hid (ptrim cut_end (by decide) (by decide) w2 A2 w.heap.size n2 c2 (r1.dropWhile isD) hr2 HR2.out.2.1.size hA2 hn2 hc2 hm2)
  have H3 := Lib.hid (show Calls Tryz.prog 29 #[.slice A2 n2 c2, .string ⟨#[32, 0]⟩] w2 (TrimA w.heap.size ((r1.dropWhile isD).dropWhile endB) w2) from H3.out)
  obtain ⟨d, hd⟩ : ∃ d, d = n1 - n2 := ⟨_, rfl⟩
  rw [← hd] at HTW
  have hdi : (n1 : Int) - (n2 : Int) = (d : Int) := by omega
  have hd1 : d ≤ n1 := by omega
  have hdc : d ≤ c1 := by omega
  have hnb : n1 ≤ 140737488351232 := by omega
  have HN2 := Lib.hid hn2
  clear H2 hr2 hA2 hm2 hF2 hn2 hd hc2 HR1 h2l hsl hb
  have HBAD := Lib.hid (show d = 0 ∨ 11 < d ∨ r1.dropWhile isD = [] ∨ (r1.dropWhile isD).dropWhile endB ≠ [] → V = 0 ∧ Z = 130 from fun h => by
    rw [HVZ.out.1, HVZ.out.2, HV.out, if_pos (by rw [HTW.out.2]; exact h)]
    exact ⟨rfl, rfl⟩)
  have HGOOD := Lib.hid (show ¬ (d = 0 ∨ 11 < d ∨ r1.dropWhile isD = [] ∨ (r1.dropWhile isD).dropWhile endB ≠ []) → V = (num8 (r1.take d) : Int) ∧ Z = 0 from fun h => by
    rw [HVZ.out.1, HVZ.out.2, HV.out, if_neg (by rw [HTW.out.2]; exact h), HTW.out.1]
    exact ⟨rfl, rfl⟩)
  by_cases h0 : d = 0
  · have HE := Lib.hid (HBAD.out (Or.inl h0))
    subst h0
    clear HBAD HGOOD
    go_wp2_with fail
    go_ret2
    exact ⟨by rw [HE.out.1, HE.out.2]; rfl, HR2.out.2.1⟩
  by_cases h11 : 11 < d
  · have HE := Lib.hid (HBAD.out (Or.inr (Or.inl h11)))
    have h0' : ((d : Int) == 0) = false := beq_eq_false_iff_ne.2 (by omega)
    clear HBAD HGOOD h0
    go_wp2_with fail
    go_ret2
    exact ⟨by rw [HE.out.1, HE.out.2]; rfl, HR2.out.2.1⟩
  have h0' : ((d : Int) == 0) = false := beq_eq_false_iff_ne.2 (by omega)
  by_cases hz : n2 = 0
  · have HE := Lib.hid (HBAD.out (Or.inr (Or.inr (Or.inl (List.eq_nil_of_length_eq_zero (by rw [← HN2.out]; exact hz))))))
    have hz' : ((n2 : Int) == 0) = true := by rw [hz]; rfl
    clear HBAD HGOOD h0 hz
    go_wp2_with fail
    go_ret2
    exact ⟨by rw [HE.out.1, HE.out.2]; rfl, HR2.out.2.1⟩
  have hz' : ((n2 : Int) == 0) = false := beq_eq_false_iff_ne.2 (by omega)
  have HZ := Lib.hid (show r1.dropWhile isD ≠ [] from fun e => hz (by rw [HN2.out, e]; rfl))
  have H0 := Lib.hid h0
  clear h0 hz
  go_wp2_with fail
  refine H3.out.mono ?_
  intro e w3 hP
  obtain ⟨A3, n3, c3, rfl, hn3, -, -, -, -, hF3⟩ := hP
  have HR3 := Lib.hid (⟨HR2.out.1.still hF3 HR2.out.2.1.size, HR2.out.2.1.trans hF3 (fun _ _ e => e)⟩ : _ ∧ _)
  clear hF3 H3 HR2
  by_cases h3 : 0 < n3
  · have HE := Lib.hid (HBAD.out (Or.inr (Or.inr (Or.inr (fun e => by rw [hn3, e] at h3; exact Nat.lt_irrefl _ h3)))))
    clear HBAD HGOOD hn3
    go_wp2_with fail
    go_ret2
    exact ⟨by rw [HE.out.1, HE.out.2]; rfl, HR3.out.2⟩
  have HE := Lib.hid (HGOOD.out (by
    rintro (h | h | h | h)
    · exact H0.out h
    · exact h11 h
    · exact HZ.out h
    · exact h (List.eq_nil_of_length_eq_zero (by omega))))
  obtain rfl : n3 = 0 := by omega
  have HDL := Lib.hid (show d ≤ r1.length by rw [← HN1.out]; exact hd1)
  have HDG := Lib.hid (show ∀ i (h : i < r1.length), i < d → isD r1[i] = true from fun i h hi => by
    have h1 : r1[i] ∈ r1.takeWhile isD := by
      rw [← HTW.out.1]
      exact List.mem_iff_getElem.2 ⟨i, by rw [List.length_take]; omega, List.getElem_take⟩
    exact List.all_eq_true.1 List.all_takeWhile _ h1)
  obtain ⟨blk, off, rfl, -, hcell⟩ := HR3.out.1 (by intro e; have h1 := HDL.out; have h2 := H0.out; rw [e] at h1; simp at h1; omega)
  have HCE := Lib.hid hcell
  have HF3 := Lib.hid HR3.out.2
  clear HBAD HGOOD hn3 h3 hcell HR3 h0' hz'
  go_wp2_with fail
  go_loop [6, 41] (fun v6 v41 => ∃ i v : Nat, i ≤ d ∧ v ≤ 8589934592 ∧ v6 = .int .i64 v ∧ v41 = .int .i64 i ∧ Hid (v = num8 (r1.take i))) (fun _ v => d - (intOf v).toNat)
  case atStart => exact ⟨0, 0, Nat.zero_le _, by decide, rfl, rfl, (show _ = _ from rfl)⟩
  case round =>
    obtain ⟨i, v, hi, hv, rfl, rfl, HK⟩ := hrel
    by_cases hlt : i < d
    · have hil : i < r1.length := Nat.lt_of_lt_of_le hlt HDL.out
      have hx := HDG.out i hil hlt
      have hce := HCE.out i r1[i] (List.getElem?_eq_getElem hil)
      unfold isD at hx
      simp only [Bool.and_eq_true, decide_eq_true_eq] at hx
      obtain ⟨hx1, hx2⟩ := hx
      have hnx : 8 * v + (r1[i].toNat - 48) = num8 (r1.take (i + 1)) := by rw [HK.out, List.take_succ_eq_append_getElem hil, num8_snoc]
      have hlt8 : num8 (r1.take (i + 1)) < 8589934592 := by
        have h1 := num8_lt (r1.take (i + 1)) (fun y hy => by
          obtain ⟨j, hj, rfl⟩ := List.getElem_of_mem hy
          rw [List.length_take] at hj
          rw [List.getElem_take]
          exact HDG.out j (by omega) (by omega))
        rw [List.length_take] at h1
        have h2 : (8 : Nat) ^ min (i + 1) r1.length ≤ 8 ^ 11 := Nat.pow_le_pow_right (by omega) (by omega)
        have h3 : (8 : Nat) ^ 11 = 8589934592 := by decide
        omega
      obtain ⟨x, hxx⟩ : ∃ x, x = r1[i].toNat := ⟨_, rfl⟩
      rw [← hxx] at hce hx1 hx2 hnx
      have HNX := Lib.hid hnx
      have hvB : v * 8 + (x - 48) ≤ 8589934592 := by omega
      have hx3 : (48 : Int) ≤ (x : Int) := by omega
      have hi0 : (0 : Int) ≤ (i : Int) := by omega
      have hi1 : (i : Int) < (d : Int) := by omega
      clear hnx hlt8 hxx hil
      go_wp2_with fail
      go_round
      case rel => exact ⟨i + 1, 8 * v + (x - 48), by omega, by omega, by go_num, by go_num, HNX⟩
      case measure => simp [intOf]; omega
    · obtain rfl : i = d := by omega
      have HE2 := Lib.hid (⟨HE.out.1.trans (by rw [HK.out]), HE.out.2⟩ : V = (v : Int) ∧ Z = 0)
      clear HE
      go_wp2_with fail
      go_ret2
      exact ⟨by rw [HE2.out.1, HE2.out.2]; rfl, HF3.out⟩
set_option maxHeartbeats 2000000 in
theorem pempty (w : World) (A : Option Addr) (cap : Nat) (b : Bts) (hr : Rd w w.heap.size A b) (hA : A = none → cap = 0) (hc : b.length ≤ cap) (hm : cap ≤ maxLen) :
    Calls Tryz.prog 19 #[.slice A b.length cap] w fun e w' => e = .returned (.bool (emptyV b)) ∧ Fr (fun _ => False) w w' := by
  have H1 := Lib.hid (ptrim cut_nought (by decide) (by decide) w A w.heap.size b.length cap b hr (Nat.le_refl _) hA rfl hc hm)
  have H1 := Lib.hid (show Calls Tryz.prog 29 #[.slice A b.length cap, .string ⟨#[0]⟩] w (TrimA w.heap.size (b.dropWhile fun x => decide (x = 0)) w) from H1.out)
  obtain ⟨V, hV⟩ : ∃ V, V = emptyV b := ⟨_, rfl⟩
  have hv : emptyV b = (decide (b.dropWhile (fun x => decide (x = 0)) = []) && decide (b.length = 512)) := by
    unfold emptyV
    congr 1
    rw [Bool.eq_iff_iff, List.all_eq_true, decide_eq_true_eq, dw_nil]
  rw [hv] at hV
  rw [hv, ← hV]
  have HV := Lib.hid hV
  obtain ⟨r, hrr⟩ : ∃ r, r = b.dropWhile (fun x => decide (x = 0)) := ⟨_, rfl⟩
  rw [← hrr] at H1 HV
  obtain ⟨n, hn⟩ : ∃ n, n = b.length := ⟨_, rfl⟩
  rw [← hn] at H1 HV ⊢
  clear hr hA hc hm hV hv hrr hn
  by_cases h5 : n = 512
  · have HV2 := Lib.hid (show V = decide (r = []) from by rw [HV.out, decide_eq_true h5, Bool.and_true])
    have h5' : ((n : Int) == 512) = true := by rw [h5]; rfl
    clear h5 HV
    go_enter Tryz.func19, Tryz.ntmps19
    go_wp2_with fail
    refine H1.out.mono ?_
    intro e w1 hP
    obtain ⟨A1, n1, c1, rfl, hn1, -, -, -, -, hF1⟩ := hP
    have HF1 := Lib.hid hF1
    have hvd : V = ((n1 : Int) == 0) := by
      rw [HV2.out, hn1]
      cases r with
      | nil => rfl
      | cons x r => rw [decide_eq_false (by intro e; cases e)]; symm; exact beq_eq_false_iff_ne.2 (by simp only [List.length_cons]; omega)
    have HVD := Lib.hid hvd
    clear hn1 hF1 H1 hvd
    go_wp2_with fail
    go_ret
    exact ⟨by rw [HVD.out]; rfl, HF1.out⟩
  · have HV2 := Lib.hid (show V = false from by rw [HV.out, decide_eq_false h5, Bool.and_false])
    have h5' : ((n : Int) == 512) = false := beq_eq_false_iff_ne.2 (by omega)
    clear h5 HV H1
    go_enter Tryz.func19, Tryz.ntmps19
    go_wp2_with fail
    go_ret
    exact ⟨by rw [HV2.out]; rfl, Fr.refl _ _⟩
set_option maxHeartbeats 4000000 in
theorem psum (w : World) (hT : DT w) (A : Option Addr) (cap : Nat) (b : Bts) (hr : Rd w w.heap.size A b) (hb : b.length ≤ 140737488351232) :
    Calls Tryz.prog 46 #[.slice A b.length cap] w fun e w' => e = .returned (.int .i64 (sumV b : Nat)) ∧ Fr (fun _ => False) w w' := by
  have HT := Lib.hid hT
  have HR := Lib.hid hr
  obtain ⟨n, hn⟩ : ∃ n, n = b.length := ⟨_, rfl⟩
  rw [← hn] at hb ⊢
  have HN := Lib.hid hn
  obtain ⟨V, hV⟩ : ∃ V, V = sumV b := ⟨_, rfl⟩
  have HV := Lib.hid hV
  rw [← hV]
  clear hr hn hV hT
  go_enter Tryz.func46, Tryz.ntmps46
  go_wp2_with fail
  go_loopw [3, 8] (fun v3 v8 wr => ∃ i s : Nat, i ≤ n ∧ s ≤ 255 * i ∧ v3 = .int .i64 s ∧ v8 = .int .i64 i ∧ Hid (s = sumF 0 (b.take i) ∧ Fr (fun _ => False) w wr)) (fun _ v _ => n - (intOf v).toNat)
  case atStart => exact ⟨0, 0, Nat.zero_le _, Nat.le_refl _, rfl, rfl, (show _ ∧ _ from ⟨rfl, Fr.refl _ _⟩)⟩
  case round =>
    obtain ⟨i, s, hi, hs, rfl, rfl, HK⟩ := hrel
    by_cases hlt : i < n
    · have hil : i < b.length := by rw [← HN.out]; exact hlt
      obtain ⟨blk, off, rfl, _, hc⟩ := (HR.out.still HK.out.2 (Nat.le_refl _)).at_ hil
      have HE := Lib.hid (show s + sumAt i b[i] = sumF 0 (b.take (i + 1)) from by rw [sumF_snoc b i hil, HK.out.1])
      have hx256 : b[i].toNat < 256 := b[i].toNat_lt
      have HSA := Lib.hid (show sumAt i b[i] = if 148 ≤ i ∧ i < 156 then 32 else b[i].toNat from rfl)
      have HH := Lib.hid (phas wr (HT.out.keep HK.out.2) 6 148 8 rfl i (by omega))
      obtain ⟨x, hx⟩ : ∃ x, x = b[i].toNat := ⟨_, rfl⟩
      rw [← hx] at hc hx256 HSA
      have h5 : (0 : Int) ≤ i := by omega
      have h6 : (i : Int) < n := by omega
      have HSE := Lib.hid (⟨HE.out, HSA.out⟩ : _ ∧ _)
      generalize sumAt i b[i] = sa at HSE
      clear HE HSA hx hil
      by_cases hin : 148 ≤ i ∧ i < 156
      · have HE2 := Lib.hid (show s + 32 = sumF 0 (b.take (i + 1)) from by rw [← HSE.out.1, HSE.out.2, if_pos hin])
        rw [decide_eq_true (by omega)] at HH
        clear hin HSE
        go_wp2_with fail
        refine HH.out.mono ?_
        rintro e w2 ⟨rfl, hF2⟩
        have HF2 := Lib.hid (HK.out.2.trans hF2 (fun _ _ e => e))
        clear hF2 HH
        go_wp2_with fail
        go_roundw
        case rel => exact ⟨i + 1, s + 32, by omega, by omega, by go_num, by go_num, (show _ ∧ _ from ⟨HE2.out, HF2.out⟩)⟩
        case measure => simp [intOf]; omega
      · have HE2 := Lib.hid (show s + x = sumF 0 (b.take (i + 1)) from by rw [← HSE.out.1, HSE.out.2, if_neg hin])
        rw [decide_eq_false (by omega)] at HH
        clear hin HSE
        go_wp2_with fail
        refine HH.out.mono ?_
        rintro e w2 ⟨rfl, hF2⟩
        have HF2 := Lib.hid (HK.out.2.trans hF2 (fun _ _ e => e))
        clear hF2 HH
        go_wp2_with fail
        go_roundw
        case rel => exact ⟨i + 1, s + x, by omega, by omega, by go_num, by go_num, (show _ ∧ _ from ⟨HE2.out, HF2.out⟩)⟩
        case measure => simp [intOf]; omega
    · have hge : ¬ (i : Int) < n := by omega
      have HV2 := Lib.hid (show V = s from by
        have e : i = b.length := by have := HN.out; omega
        rw [HV.out, HK.out.1, e, List.take_length]
        rfl)
      go_wp2_with fail
      go_ret
      exact ⟨by rw [HV2.out]; rfl, HK.out.2⟩
end Go.Proofs.YtgimiggffpokpaaGreatDoor.he
