/-
  The program's counts: reach, mayBe; levels: next, begins.
-/
import Derived.Test.YtnibbopdjeagoaaCpB
import Derived.BigRegion
import Derived.Deep.RegionHeld3
namespace Go.Proofs.Ytnibbopdjeagoaa.cd
set_option maxRecDepth 100000
open Go.RowKit Go.Maps Go.Proofs.Ytnibbopdjeagoaa.fl
set_option maxRecDepth 100000

set_option maxHeartbeats 2000000 in
theorem preach (w : World) (l : List Int) (hi : inB l = true) :
    Calls Try.prog 37 #[cnV (cntL l)] w fun e w' => e = .returned (.int .i64 (mostW (wordsL l) : Nat)) ∧ Fr (fun _ => False) w w' := by
  have HB := Lib.hid (heap_alloc_new w (.cells (is (cntL l)).toArray 57))
  have HF := Lib.hid (box_fr (w := w) (o := .cells (is (cntL l)).toArray 57))
  have HI := Lib.hid hi
  obtain ⟨z, hz⟩ : ∃ z, z = mostW (wordsL l) := ⟨_, rfl⟩
  have HZ := Lib.hid hz
  rw [← hz]
  clear hz hi
  go_enter Try.func37, Try.ntmps37
  go_wp2_with ((with_reducible refine wpList_boxCn ?_ (.tmp 0) ?_ (cntL l) ?_ ?_); (exact rfl); (exact rfl); (exact rfl))
  obtain ⟨w1, hw1⟩ : ∃ w1, w1 = w.alloc (.cells (is (cntL l)).toArray 57) := ⟨_, rfl⟩
  rw [← hw1] at HB HF ⊢
  clear hw1
  go_loop [3] (fun i => ∃ k : Nat, 1 ≤ k ∧ k ≤ 15 ∧ i = .int .i64 k ∧ Hid (∀ m, k < m → m ≤ 15 → cn l m = 0)) (fun i => (intOf i).toNat)
  case atStart => exact ⟨15, by omega, by omega, rfl, (show ∀ _, _ from fun m h1 h2 => by omega)⟩
  case round =>
    obtain ⟨k, hk1, hk2, rfl, HS⟩ := hrel
    by_cases h1 : k = 1
    · have HE := Lib.hid (reach_most HI.out (n := k) hk1 hk2 HS.out (Or.inl h1))
      subst h1
      go_wp2_with fail
      go_ret
      exact ⟨by rw [HZ.out, HE.out]; rfl, HF.out⟩
    · have c0 : w1.cell? ⟨w.heap.size, k, none⟩ = some (.int .i64 (cn l k : Int)) := by rw [cellAt HB.out, List.getElem?_toArray, is_get, cntL_get _ (by omega)]; rfl
      have hgt : ¬ ((k : Int) ≤ 1) := by omega
      by_cases h2 : cn l k = 0
      · have HN := Lib.hid (show ∀ m, k - 1 < m → m ≤ 15 → cn l m = 0 from fun m h3 h4 => by
          by_cases e : m = k
          · rw [e]; exact h2
          · exact HS.out m (by omega) h4)
        rw [h2] at c0
        have e1 : (k : Int) - 1 = ((k - 1 : Nat) : Int) := by omega
        go_wp2_with fail
        go_round
        case rel => exact ⟨k - 1, by omega, by omega, by go_num, HN⟩
        case measure => simp [intOf]; omega
      · have HE := Lib.hid (reach_most HI.out (n := k) hk1 hk2 HS.out (Or.inr h2))
        obtain ⟨d, hd⟩ : ∃ d, d = cn l k := ⟨_, rfl⟩
        rw [← hd] at c0 h2
        clear hd
        have hne : ((d : Int) == 0) = false := by simpa using h2
        go_wp2_with fail
        go_ret
        exact ⟨by rw [HZ.out, HE.out]; rfl, HF.out⟩
/-- May there be so many codes? -/
def mayI (l : List Int) : Bool := decide (roomI l = 0) || decide (shN l 16 = 0) || decide (shN l 16 = 1) && decide (cn l 1 = 1)
theorem may_ok {l : List Int} (h1 : l.length ≤ 288) (h2 : inB l = true) : mayI l = okB l := by
  have hs := sh_all l h2
  have hc := cn_pos l (Nat.le_refl 1)
  unfold mayI
  rw [hs, hc]
  by_cases h : okB l = true
  · rw [h]
    obtain ⟨_, _, h3⟩ := (okB_iff l).1 h
    rcases h3 with h3 | ⟨_, h4, h5⟩
    · rw [decide_eq_true h3]; rfl
    · rcases Nat.eq_zero_or_pos (codesN l) with h6 | h6
      · rw [decide_eq_true h6, Bool.or_true]; rfl
      · have h7 : codesN l = 1 := by omega
        have h8 : cnt l 1 = 1 := by omega
        rw [decide_eq_true h7, decide_eq_true h8, Bool.and_true, Bool.or_true]
  · have h9 : okB l = false := by simpa using h
    rw [h9]
    apply Decidable.byContradiction
    intro hn
    apply h
    rw [okB_iff]
    refine ⟨h1, (inB_iff l).1 h2, ?_⟩
    have hk : ∀ x ∈ l, ¬ (0 < x) → usedI x = 0 := fun x _ hx => by unfold usedI; rw [if_neg (by omega)]
    by_cases hr : roomI l = 0
    · exact Or.inl hr
    · right
      rw [decide_eq_false hr, Bool.false_or] at hn
      have h10 : codesN l = 0 ∨ codesN l = 1 ∧ cnt l 1 = 1 := by
        by_cases e : codesN l = 0
        · exact Or.inl e
        · rw [decide_eq_false e, Bool.false_or] at hn
          right
          simpa using hn
      have hle : cnt l 1 ≤ codesN l := by
        have := sh_mono l 2 14
        rw [hs] at this
        have e2 : shN l 2 = cnt l 1 := by
          show 0 + cn l 0 + cn l 1 = _
          rw [hc]
          unfold cn
          simp
        omega
      refine ⟨?_, by omega, by omega⟩
      have hu : ∀ l : List Int, (∀ x ∈ l, 0 ≤ x ∧ x ≤ 15) → usedS l ≤ 16384 * (codesN l : Int) := by
        intro l
        induction l with
        | nil => intro _; simp [usedS, codesN]
        | cons x l ih =>
          intro hx
          have h11 := ih (fun y hy => hx y (by simp [hy]))
          have h12 : codesN (x :: l) = codesN l + if 0 < x then 1 else 0 := by
            unfold codesN
            rw [List.countP_cons]
            congr 1
            by_cases e : 0 < x
            · rw [if_pos (by simpa using e), if_pos e]
            · rw [if_neg (by simpa using e), if_neg e]
          rw [usedS, h12]
          unfold usedI
          by_cases e : 0 < x
          · have := hx x (by simp)
            rw [if_pos (by omega), if_pos e]
            have h13 : (2 : Int) ^ (15 - x.toNat) ≤ 2 ^ 14 := by exact_mod_cast Nat.pow_le_pow_right (n := 2) (by omega) (by omega : 15 - x.toNat ≤ 14)
            omega
          · rw [if_neg (by omega), if_neg e]
            omega
      have := hu l ((inB_iff l).1 h2)
      unfold roomI at hr ⊢
      omega
/-- What mayBe asks. -/
structure MayA (w : World) (l : List Int) (r : Int) (s d : Nat) : Prop where
  left : ∀ w, Calls Try.prog 40 #[cnV (cntL l)] w fun e w' => e = .returned (.int .i64 r) ∧ Fr (fun _ => False) w w'
  all : ∀ w, Calls Try.prog 38 #[cnV (cntL l)] w fun e w' => e = .returned (.int .i64 (s : Int)) ∧ Fr (fun _ => False) w w'
  keep : ∀ w', Fr (fun _ => False) (w.alloc (.cells (is (cntL l)).toArray 57)) w' → w'.heap[w.heap.size]? = some (.cells (is (cntL l)).toArray 57 (0, 0)) ∧ w'.cell? ⟨w.heap.size, 1, none⟩ = some (.int .i64 (d : Int))
theorem may_asks (w : World) (l : List Int) (hb : l.length ≤ 140737488351232) : MayA w l (roomI l) (shN l 16) (cn l 1) := ⟨fun w => pleft w l hb, fun w => pall w l hb, fun w' hF => by
  have hc1 : (is (cntL l)).toArray[1]? = some (.int .i64 (cn l 1 : Int)) := by rw [List.getElem?_toArray, is_get, cntL_get _ (by omega)]; rfl
  have h := (hF.block w.heap.size (by simp) id).trans (heap_alloc_new w _)
  exact ⟨h, (cellAt h 1).trans hc1⟩⟩
set_option maxHeartbeats 1000000 in
theorem may1 (w : World) (l : List Int) {s d : Nat} (H : MayA w l 0 s d)  : Calls Try.prog 36 #[cnV (cntL l)] w fun e w' => e = .returned (.bool true) ∧ Fr (fun _ => False) w w' := by
  have HH := Lib.hid H
  have HC := Lib.hid (cntL_length l)
  have HF := Lib.hid (box_fr (w := w) (o := .cells (is (cntL l)).toArray 57))
  have HR0 := Lib.hid (H.keep _ (Fr.refl _ _)).1
  clear H
  go_enter Try.func36, Try.ntmps36
  go_wp2_with (first
    | ((with_reducible refine wpList_boxCn ?_ (.tmp 0) ?_ (cntL l) ?_ ?_); (exact rfl); (exact rfl); (exact rfl))
    | ((with_reducible refine wpList_loadCn ?_ (.tmp 1) ?_ w.heap.size (cntL l) HC.out ?_ HR0.out ?_); (exact rfl); (exact rfl); (exact rfl))
    | (go_at_call 40; refine (HH.out.left _).mono ?_; rintro e w1 ⟨rfl, hF1⟩; have HF1 := Lib.hid hF1; have HR1 := Lib.hid (HH.out.keep _ hF1).1; clear hF1)
    | fail)
  go_ret
  exact ⟨rfl, HF.out.trans HF1.out (fun _ _ e => e)⟩
set_option maxHeartbeats 1000000 in
theorem may2 (w : World) (l : List Int) {r : Int} {d : Nat} (H : MayA w l r 0 d) (hr : (r == 0) = false) : Calls Try.prog 36 #[cnV (cntL l)] w fun e w' => e = .returned (.bool true) ∧ Fr (fun _ => False) w w' := by
  have HH := Lib.hid H
  have HC := Lib.hid (cntL_length l)
  have HF := Lib.hid (box_fr (w := w) (o := .cells (is (cntL l)).toArray 57))
  have HR0 := Lib.hid (H.keep _ (Fr.refl _ _)).1
  clear H
  go_enter Try.func36, Try.ntmps36
  go_wp2_with (first
    | ((with_reducible refine wpList_boxCn ?_ (.tmp 0) ?_ (cntL l) ?_ ?_); (exact rfl); (exact rfl); (exact rfl))
    | ((with_reducible refine wpList_loadCn ?_ (.tmp 1) ?_ w.heap.size (cntL l) HC.out ?_ HR0.out ?_); (exact rfl); (exact rfl); (exact rfl))
    | (go_at_call 40; refine (HH.out.left _).mono ?_; rintro e w1 ⟨rfl, hF1⟩; have HF1 := Lib.hid hF1; have HR1 := Lib.hid (HH.out.keep _ hF1).1; clear hF1)
    | ((with_reducible refine wpList_loadCnG (.tmp 1) ?_ w.heap.size (cntL l) HC.out ?_ ?_ HR1.out ?_); (exact rfl); (exact rfl); (exact rfl))
    | (go_at_call 38; refine (HH.out.all _).mono ?_; rintro e w2 ⟨rfl, hF2⟩; have HF2 := Lib.hid (HF1.out.trans hF2 (fun _ _ e => e)); clear hF2))
  go_ret
  exact ⟨rfl, HF.out.trans HF2.out (fun _ _ e => e)⟩
set_option maxHeartbeats 1000000 in
theorem may3 (w : World) (l : List Int) {r : Int} {d : Nat} (H : MayA w l r 1 d) (hr : (r == 0) = false) : Calls Try.prog 36 #[cnV (cntL l)] w fun e w' => e = .returned (.bool ((d : Int) == 1)) ∧ Fr (fun _ => False) w w' := by
  have HH := Lib.hid H
  have HC := Lib.hid (cntL_length l)
  have HF := Lib.hid (box_fr (w := w) (o := .cells (is (cntL l)).toArray 57))
  have HR0 := Lib.hid (H.keep _ (Fr.refl _ _)).1
  clear H
  go_enter Try.func36, Try.ntmps36
  go_wp2_with (first
    | ((with_reducible refine wpList_boxCn ?_ (.tmp 0) ?_ (cntL l) ?_ ?_); (exact rfl); (exact rfl); (exact rfl))
    | ((with_reducible refine wpList_loadCn ?_ (.tmp 1) ?_ w.heap.size (cntL l) HC.out ?_ HR0.out ?_); (exact rfl); (exact rfl); (exact rfl))
    | (go_at_call 40; refine (HH.out.left _).mono ?_; rintro e w1 ⟨rfl, hF1⟩; have HF1 := Lib.hid hF1; have HR1 := Lib.hid (HH.out.keep _ hF1).1; clear hF1)
    | ((with_reducible refine wpList_loadCnG (.tmp 1) ?_ w.heap.size (cntL l) HC.out ?_ ?_ HR3.out ?_); (exact rfl); (exact rfl); (exact rfl))
    | ((with_reducible refine wpList_loadCnG (.tmp 1) ?_ w.heap.size (cntL l) HC.out ?_ ?_ HR1.out ?_); (exact rfl); (exact rfl); (exact rfl))
    | ((fail_if_success (have := HR3)); go_at_call 38; refine (HH.out.all _).mono ?_; rintro e w2 ⟨rfl, hF2⟩; have HF2 := Lib.hid (HF1.out.trans hF2 (fun _ _ e => e)); have HR3 := Lib.hid (HH.out.keep _ HF2.out).1; clear hF2)
    | (go_at_call 38; refine (HH.out.all _).mono ?_; rintro e w3 ⟨rfl, hF3⟩; have HF3 := Lib.hid (HF2.out.trans hF3 (fun _ _ e => e)); have c1 := (HH.out.keep _ HF3.out).2; clear hF3))
  go_ret
  exact ⟨rfl, HF.out.trans HF3.out (fun _ _ e => e)⟩
set_option maxHeartbeats 1000000 in
theorem may4 (w : World) (l : List Int) {r : Int} {s d : Nat} (H : MayA w l r s d) (hr : (r == 0) = false) (hs : ((s : Int) == 0) = false) (hs1 : ((s : Int) == 1) = false) : Calls Try.prog 36 #[cnV (cntL l)] w fun e w' => e = .returned (.bool false) ∧ Fr (fun _ => False) w w' := by
  have HH := Lib.hid H
  have HC := Lib.hid (cntL_length l)
  have HF := Lib.hid (box_fr (w := w) (o := .cells (is (cntL l)).toArray 57))
  have HR0 := Lib.hid (H.keep _ (Fr.refl _ _)).1
  clear H
  go_enter Try.func36, Try.ntmps36
  go_wp2_with (first
    | ((with_reducible refine wpList_boxCn ?_ (.tmp 0) ?_ (cntL l) ?_ ?_); (exact rfl); (exact rfl); (exact rfl))
    | ((with_reducible refine wpList_loadCn ?_ (.tmp 1) ?_ w.heap.size (cntL l) HC.out ?_ HR0.out ?_); (exact rfl); (exact rfl); (exact rfl))
    | (go_at_call 40; refine (HH.out.left _).mono ?_; rintro e w1 ⟨rfl, hF1⟩; have HF1 := Lib.hid hF1; have HR1 := Lib.hid (HH.out.keep _ hF1).1; clear hF1)
    | ((with_reducible refine wpList_loadCnG (.tmp 1) ?_ w.heap.size (cntL l) HC.out ?_ ?_ HR3.out ?_); (exact rfl); (exact rfl); (exact rfl))
    | ((with_reducible refine wpList_loadCnG (.tmp 1) ?_ w.heap.size (cntL l) HC.out ?_ ?_ HR1.out ?_); (exact rfl); (exact rfl); (exact rfl))
    | ((fail_if_success (have := HR3)); go_at_call 38; refine (HH.out.all _).mono ?_; rintro e w2 ⟨rfl, hF2⟩; have HF2 := Lib.hid (HF1.out.trans hF2 (fun _ _ e => e)); have HR3 := Lib.hid (HH.out.keep _ HF2.out).1; clear hF2)
    | (go_at_call 38; refine (HH.out.all _).mono ?_; rintro e w3 ⟨rfl, hF3⟩; have HF3 := Lib.hid (HF2.out.trans hF3 (fun _ _ e => e)); have c1 := (HH.out.keep _ HF3.out).2; clear hF3))
  go_ret
  exact ⟨rfl, HF.out.trans HF3.out (fun _ _ e => e)⟩
theorem pmayBe (w : World) (l : List Int) (hb : l.length ≤ 140737488351232) :
    Calls Try.prog 36 #[cnV (cntL l)] w fun e w' => e = .returned (.bool (mayI l)) ∧ Fr (fun _ => False) w w' := by
  have H := may_asks w l hb
  unfold mayI
  obtain ⟨r, hr⟩ : ∃ r, r = roomI l := ⟨_, rfl⟩
  obtain ⟨s, hs⟩ : ∃ s, s = shN l 16 := ⟨_, rfl⟩
  obtain ⟨d, hd⟩ : ∃ d, d = cn l 1 := ⟨_, rfl⟩
  rw [← hr, ← hs, ← hd] at H ⊢
  clear hr hs hd
  by_cases h1 : r = 0
  · subst h1
    have := may1 w l H
    simpa using this
  have hr0 : (r == 0) = false := by simpa using h1
  rw [decide_eq_false h1, Bool.false_or]
  by_cases h2 : s = 0
  · subst h2
    have := may2 w l H hr0
    simpa using this
  have hs0 : ((s : Int) == 0) = false := by simpa using h2
  rw [decide_eq_false h2, Bool.false_or]
  by_cases h3 : s = 1
  · subst h3
    have := may3 w l H hr0
    have e : ((d : Int) == 1) = decide (d = 1) := by
      by_cases h4 : d = 1
      · subst h4; rfl
      · have : ((d : Int) == 1) = false := by rw [beq_eq_false_iff_ne]; omega
        rw [this, decide_eq_false h4]
    rw [e] at this
    rw [decide_eq_true rfl, Bool.true_and]
    exact this
  · have hs1 : ((s : Int) == 1) = false := by rw [beq_eq_false_iff_ne]; omega
    rw [decide_eq_false h3, Bool.false_and]
    exact may4 w l H hr0 hs0 hs1
set_option maxHeartbeats 2000000 in
theorem pnext (w : World) (a b c : Int) (ha : 0 ≤ a ∧ a ≤ 1000000) (hb : 0 ≤ b ∧ b ≤ 1000000) (hc : 0 ≤ c ∧ c ≤ 1000000) :
    Calls Try.prog 47 #[.agg #[.int .i64 a, .int .i64 b], .int .i64 c] w fun e w' => e = .returned (.agg #[.int .i64 ((a + c) * 2), .int .i64 (b + c)]) ∧ Fr (fun _ => False) w w' := by
  have HF := Lib.hid (show ∀ (u v : Obj), Fr (fun _ => False) w ((w.alloc u).alloc v) from fun u v => ((Fr.refl _ w).alloc u).alloc v)
  go_enter Try.func47, Try.ntmps47
  go_wp2_with fail
  exact bodyPost_ret (v := .agg #[.int .i64 ((a + c) * 2), .int .i64 (b + c)]) (results_cell_row rfl _ _ (w.heap.size + 1) 66 #[.int .i64 ((a + c) * 2), .int .i64 (b + c)] (0, 0) _ rfl (heap_alloc2_new _ _ _) Try.underlying66 rfl (by kernel_rfl)) rfl ⟨rfl, HF.out _ _⟩

/-- Where the codes of each length begin. -/
def lvL (l : List Int) (k : Nat) : List (Int × Int) := (List.range 16).map fun n => if n ≤ k then ((fiN l n : Int), (shN l n : Int)) else (0, 0)
theorem lvL_length (l : List Int) (k : Nat) : (lvL l k).length = 16 := by unfold lvL; simp
theorem lvL_get (l : List Int) (k : Nat) {n : Nat} (h : n < 16) : (lvL l k)[n]? = some (if n ≤ k then ((fiN l n : Int), (shN l n : Int)) else (0, 0)) := by
  unfold lvL
  rw [List.getElem?_map, List.getElem?_range h]
  rfl
theorem lvL_zero (l : List Int) : lvL l 0 = noL16 := by
  apply List.ext_getElem?
  intro i
  by_cases h : i < 16
  · rw [lvL_get l 0 h, List.getElem?_replicate, if_pos h]
    by_cases h0 : i = 0
    · subst h0; rfl
    · rw [if_neg (by omega)]
  · rw [List.getElem?_eq_none (by rw [lvL_length]; omega), List.getElem?_eq_none (by simp; omega)]
theorem lvL_next (l : List Int) {k : Nat} (_ : k < 15) : lvL l (k + 1) = (lvL l k).set (k + 1) ((((fiN l k : Int) + (cn l k : Int)) * 2, (shN l k : Int) + (cn l k : Int))) := by
  apply List.ext_getElem?
  intro i
  by_cases hi : i < 16
  · rw [lvL_get l _ hi]
    by_cases e : i = k + 1
    · subst e
      rw [List.getElem?_set_self (by rw [lvL_length]; omega), if_pos (Nat.le_refl _), fiN, shN]
      congr 2
      omega
    · rw [List.getElem?_set_ne (fun e2 => e e2.symm), lvL_get l _ hi]
      congr 1
      by_cases h2 : i ≤ k
      · rw [if_pos h2, if_pos (by omega)]
      · rw [if_neg h2, if_neg (by omega)]
  · rw [List.getElem?_eq_none (by rw [lvL_length]; omega), List.getElem?_eq_none (by rw [List.length_set, lvL_length]; omega)]
theorem fi_small {l : List Int} (h : okB l = true) {n : Nat} (hn : n ≤ 15) : fiN l n ≤ 65536 ∧ shN l n ≤ 288 ∧ cn l n ≤ 288 := by
  obtain ⟨h1, _, hr⟩ := (okB_iff l).1 h
  refine ⟨?_, Nat.le_trans (sh_le l n) h1, Nat.le_trans (cn_le l n) h1⟩
  cases n with
  | zero => rw [fiN]; omega
  | succ n =>
    rw [fi_succ]
    have h2 := lim_le (l := l) (by omega) (show n ≤ 15 by omega)
    have h3 : 2 ^ n ≤ 2 ^ 14 := Nat.pow_le_pow_right (by omega) (by omega)
    omega
theorem lvL_cells (l : List Int) (k : Nat) : (lvs (lvL l k)).length = 32 := by rw [lvs_length, lvL_length]
theorem noL16_cells : (lvs noL16).length = 32 := by rw [lvs_length]; rfl
/-- What lies there while the levels are told. -/
structure Bgn (w : World) (l : List Int) (k : Nat) (wr : World) : Prop where
  cnt : wr.heap[w.heap.size]? = some (.cells (is (cntL l)).toArray 57 (0, 0))
  res : wr.heap[w.heap.size + 1]? = some (.cells (lvs noL16).toArray 67 (0, 0))
  var : wr.heap[w.heap.size + 1 + 1]? = some (.cells (lvs (lvL l k)).toArray 67 (0, 0))
  fr : Fr (fun _ => False) w wr
  sz : w.heap.size + 3 ≤ wr.heap.size
theorem Bgn.start (w : World) (l : List Int) : Bgn w l 0 (((w.alloc (.cells (is (cntL l)).toArray 57)).alloc (.cells (lvs noL16).toArray 67)).alloc (.cells (lvs noL16).toArray 67)) := by
  refine ⟨?_, ?_, ?_, (((Fr.refl _ w).alloc _).alloc _).alloc _, by simp⟩
  · rw [Below.heap_alloc _ _ _ (by simp; omega)]
    exact heap_alloc2_old _ _ _
  · rw [Below.heap_alloc _ _ _ (by simp)]
    exact heap_alloc2_new _ _ _
  · rw [lvL_zero]
    have := heap_alloc_new ((w.alloc (.cells (is (cntL l)).toArray 57)).alloc (.cells (lvs noL16).toArray 67)) (.cells (lvs noL16).toArray 67)
    simpa using this
theorem Bgn.still {w wr w' : World} {l : List Int} {k : Nat} (h : Bgn w l k wr) (hF : Fr (fun _ => False) wr w') : Bgn w l k w' :=
  ⟨(hF.block _ (by have := h.sz; omega) id).trans h.cnt, (hF.block _ (by have := h.sz; omega) id).trans h.res, (hF.block _ (by have := h.sz; omega) id).trans h.var, h.fr.trans hF (fun _ _ e => e), Nat.le_trans h.sz hF.size⟩
theorem Bgn.at_ {w wr : World} {l : List Int} {k : Nat} (h : Bgn w l k wr) (hk : k < 15) : wr.cell? ⟨w.heap.size, k, none⟩ = some (.int .i64 (cn l k : Int)) ∧ wr.cell? ⟨w.heap.size + 1 + 1, k * 2, none⟩ = some (.int .i64 (fiN l k : Int)) ∧ wr.cell? ⟨w.heap.size + 1 + 1, k * 2 + 1, none⟩ = some (.int .i64 (shN l k : Int)) := by
  have h2 := lvs_get (lvL l k) k _ (lvL_get l k (by omega))
  rw [if_pos (Nat.le_refl _)] at h2
  refine ⟨?_, ?_, ?_⟩
  · rw [cellAt h.cnt, List.getElem?_toArray, is_get, cntL_get _ (by omega)]; rfl
  · rw [cellAt h.var, List.getElem?_toArray, Nat.mul_comm]; exact h2.1
  · rw [cellAt h.var, List.getElem?_toArray, Nat.mul_comm]; exact h2.2
theorem Bgn.put {w wr : World} {l : List Int} {k : Nat} (h : Bgn w l k wr) (hk : k < 15) :
    (∃ x y, wr.cell? ⟨w.heap.size + 1 + 1, (k + 1) * 2, none⟩ = some (.int .i64 x) ∧ wr.cell? ⟨w.heap.size + 1 + 1, (k + 1) * 2 + 1, none⟩ = some (.int .i64 y)) ∧ wr.frozen? ⟨w.heap.size + 1 + 1, (k + 1) * 2, none⟩ = false ∧ wr.frozen? ⟨w.heap.size + 1 + 1, (k + 1) * 2 + 1, none⟩ = false ∧
    Bgn w l (k + 1) ((wr.setCell ⟨w.heap.size + 1 + 1, (k + 1) * 2, none⟩ (.int .i64 (((fiN l k : Int) + (cn l k : Int)) * 2))).setCell ⟨w.heap.size + 1 + 1, (k + 1) * 2 + 1, none⟩ (.int .i64 ((shN l k : Int) + (cn l k : Int)))) := by
  have h2 := lvs_get (lvL l k) (k + 1) _ (lvL_get l k (by omega))
  rw [if_neg (by omega)] at h2
  refine ⟨⟨0, 0, ?_, ?_⟩, freeAt h.var _, freeAt h.var _, ?_, ?_, ?_, ?_, ?_⟩
  · rw [cellAt h.var, List.getElem?_toArray, Nat.mul_comm]; exact h2.1
  · rw [cellAt h.var, List.getElem?_toArray, Nat.mul_comm]; exact h2.2
  · rw [Below.heap_setCell _ _ _ _ (by simp; omega), Below.heap_setCell _ _ _ _ (by simp; omega)]
    exact h.cnt
  · rw [Below.heap_setCell _ _ _ _ (by simp), Below.heap_setCell _ _ _ _ (by simp)]
    exact h.res
  · rw [heap_setCell_same _ _ _ _ _ _ (heap_setCell_same _ _ _ _ _ _ h.var), lvL_next l hk, ← lvs_set, Nat.mul_comm 2]
    simp
  · exact (h.fr.setCell (p := ⟨w.heap.size + 1 + 1, (k + 1) * 2, none⟩) (Or.inr (by simp; omega)) _).setCell (p := ⟨w.heap.size + 1 + 1, (k + 1) * 2 + 1, none⟩) (Or.inr (by simp; omega)) _
  · simpa [World.setCell] using h.sz
theorem addr_ne {S o T p : Nat} (h : S ≠ T ∨ o ≠ p) : (⟨S, o, none⟩ : Addr) ≠ ⟨T, p, none⟩ := fun e => by cases e; omega
theorem keep3 {w : World} {S k : Nat} {c f s : Value} (h : w.cell? ⟨S, k, none⟩ = some c ∧ w.cell? ⟨S + 1 + 1, k * 2, none⟩ = some f ∧ w.cell? ⟨S + 1 + 1, k * 2 + 1, none⟩ = some s) (x y : Value) :
    ((w.setCell ⟨S + 1 + 1, (k + 1) * 2, none⟩ x).setCell ⟨S + 1 + 1, (k + 1) * 2 + 1, none⟩ y).cell? ⟨S, k, none⟩ = some c ∧ ((w.setCell ⟨S + 1 + 1, (k + 1) * 2, none⟩ x).setCell ⟨S + 1 + 1, (k + 1) * 2 + 1, none⟩ y).cell? ⟨S + 1 + 1, k * 2, none⟩ = some f ∧ ((w.setCell ⟨S + 1 + 1, (k + 1) * 2, none⟩ x).setCell ⟨S + 1 + 1, (k + 1) * 2 + 1, none⟩ y).cell? ⟨S + 1 + 1, k * 2 + 1, none⟩ = some s := by
  obtain ⟨h1, h2, h3⟩ := h
  refine ⟨?_, ?_, ?_⟩
  · rw [World.cell?_setCell_other _ _ _ _ (addr_ne (by omega)), World.cell?_setCell_other _ _ _ _ (addr_ne (by omega))]; exact h1
  · rw [World.cell?_setCell_other _ _ _ _ (addr_ne (by omega)), World.cell?_setCell_other _ _ _ _ (addr_ne (by omega))]; exact h2
  · rw [World.cell?_setCell_other _ _ _ _ (addr_ne (by omega)), World.cell?_setCell_other _ _ _ _ (addr_ne (by omega))]; exact h3
set_option maxHeartbeats 4000000 in
theorem pbegins (w : World) (l : List Int) (h : okB l = true) :
    Calls Try.prog 39 #[cnV (cntL l)] w fun e w' => e = .returned (lvV (lvL l 15)) ∧ Fr (fun _ => False) w w' := by
  have HS := Lib.hid (Bgn.start w l)
  have HK := Lib.hid (fun n (hn : n ≤ 15) => fi_small h hn)
  clear h
  go_enter Try.func39, Try.ntmps39
  go_wp2_with (first
    | ((with_reducible refine wpList_boxCn ?_ (.tmp 0) ?_ (cntL l) ?_ ?_); (exact rfl); (exact rfl); (exact rfl))
    | ((with_reducible refine wpList_allocLv ?_ ?_ ?_); (exact rfl); (exact rfl)))
  go_loopw [4, 5] (fun _ i wr => ∃ k : Nat, k ≤ 15 ∧ i = .int .i64 k ∧ Hid (Bgn w l k wr)) (fun _ i _ => 15 - (intOf i).toNat)
  case atStart => exact ⟨0, Nat.zero_le _, rfl, HS⟩
  case round =>
    obtain ⟨k, hk, rfl, HC⟩ := hrel
    by_cases hlt : k < 15
    · obtain ⟨c0, c1, c2⟩ := HC.out.at_ hlt
      have hs := HK.out k hk
      obtain ⟨f, hf⟩ : ∃ f, f = fiN l k := ⟨_, rfl⟩
      obtain ⟨s, hsh⟩ : ∃ s, s = shN l k := ⟨_, rfl⟩
      obtain ⟨c, hc⟩ : ∃ c, c = cn l k := ⟨_, rfl⟩
      have HP := Lib.hid (show ∀ w', Fr (fun _ => False) wr w' → (∃ x y, w'.cell? ⟨w.heap.size + 1 + 1, (k + 1) * 2, none⟩ = some (.int .i64 x) ∧ w'.cell? ⟨w.heap.size + 1 + 1, (k + 1) * 2 + 1, none⟩ = some (.int .i64 y)) ∧ w'.frozen? ⟨w.heap.size + 1 + 1, (k + 1) * 2, none⟩ = false ∧ w'.frozen? ⟨w.heap.size + 1 + 1, (k + 1) * 2 + 1, none⟩ = false ∧
        Bgn w l (k + 1) ((w'.setCell ⟨w.heap.size + 1 + 1, (k + 1) * 2, none⟩ (.int .i64 (((f : Int) + (c : Int)) * 2))).setCell ⟨w.heap.size + 1 + 1, (k + 1) * 2 + 1, none⟩ (.int .i64 ((s : Int) + (c : Int)))) from fun w' hF => by
        rw [hf, hsh, hc]; exact (HC.out.still hF).put hlt)
      have HN := Lib.hid (fun wx => pnext wx (f : Int) (s : Int) (c : Int) (by omega) (by omega) (by omega))
      rw [← hf] at c1
      rw [← hsh] at c2
      rw [← hc] at c0
      clear hf hsh hc hs
      have HE := Lib.hid (show ∀ w', Fr (fun _ => False) wr w' → w'.cell? ⟨w.heap.size, k, none⟩ = some (.int .i64 (c : Int)) ∧ w'.cell? ⟨w.heap.size + 1 + 1, k * 2, none⟩ = some (.int .i64 (f : Int)) ∧ w'.cell? ⟨w.heap.size + 1 + 1, k * 2 + 1, none⟩ = some (.int .i64 (s : Int)) from fun w' hF => by
        have hz := HC.out.sz
        exact ⟨(World.cell?_of_block (w := wr) (w' := w') (a := ⟨w.heap.size, k, none⟩) (hF.block w.heap.size (by omega) id)).trans c0, (World.cell?_of_block (w := wr) (w' := w') (a := ⟨w.heap.size + 1 + 1, k * 2, none⟩) (hF.block (w.heap.size + 1 + 1) (by omega) id)).trans c1, (World.cell?_of_block (w := wr) (w' := w') (a := ⟨w.heap.size + 1 + 1, k * 2 + 1, none⟩) (hF.block (w.heap.size + 1 + 1) (by omega) id)).trans c2⟩)
      have HD := Lib.hid ((Fr.refl (fun _ => False) wr).drew)
      have hk0 : (0 : Int) ≤ k := by omega
      have hk16 : (k : Int) < 16 := by omega
      have hj0 : (0 : Int) ≤ (k : Int) + 1 := by omega
      have hj16 : (k : Int) + 1 < 16 := by omega
      have hwr : IntKind.i64.wrap ((k : Int) + 1) = (k : Int) + 1 := IntWalk.i64_in _ (by omega)
      clear c0 c1 c2
      go_wp2_with fail
      go_region_held3 (fun w' => w'.cell? ⟨w.heap.size, k, none⟩ = some (.int .i64 (c : Int)) ∧ w'.cell? ⟨w.heap.size + 1 + 1, k * 2, none⟩ = some (.int .i64 (f : Int)) ∧ w'.cell? ⟨w.heap.size + 1 + 1, k * 2 + 1, none⟩ = some (.int .i64 (s : Int)))
        (first
          | exact HE.out _ HD.out
          | exact HE.out _ H7.out
          | exact HE7.out _ _)
        (first
          | (go_at_call 47; (refine (HN.out _).mono ?_); rintro e w7 ⟨rfl, hF7⟩; have H7 := Lib.hid (HD.out.trans hF7 (fun _ _ e => e)); obtain ⟨⟨x, y, q0, q1⟩, g0, g1, hb7⟩ := HP.out w7 H7.out; have HB7 := Lib.hid hb7; have HE7 := Lib.hid (fun (x y : Value) => keep3 (HE.out w7 H7.out) x y); clear hF7 hb7))
      all_goals trace_state
      all_goals
        go_wp2_with fail
        go_roundw
        case rel => exact ⟨k + 1, by omega, by go_num, HB7⟩
        case measure => simp [intOf]; omega
    · obtain rfl : k = 15 := by omega
      have HB := Lib.hid HC.out.var
      have HR := Lib.hid HC.out.res
      go_wp2_with (first
        | ((with_reducible refine wpList_loadLv ?_ (.tmp 3) ?_ (w.heap.size + 1 + 1) (lvL l 15) (lvL_length l 15) ?_ HB.out ?_); (exact rfl); (exact rfl); (exact rfl))
        | ((with_reducible refine wpList_storeA infoLv ?_ (.tmp 2) (.tmp 19) ?_ (w.heap.size + 1) (lvs (lvL l 15)) (lvs noL16) (lvL_cells l 15) noL16_cells (lvs_one _) ?_ ?_ HR.out ?_); (exact rfl); (exact rfl); (exact rfl); (exact rfl); intro w3 h3 hF3 hs3; have H3 := Lib.hid h3; have HF3 := Lib.hid hF3; clear h3 hF3 hs3))
      try go_frame
      exact bodyPost_ret (v := lvV (lvL l 15)) (results_Lv rfl _ _ (w.heap.size + 1) (lvL l 15) (lvL_length l 15) rfl H3.out) rfl ⟨rfl, (HC.out.fr.trans (HF3.out.mono (S := fun i => w.heap.size ≤ i) (fun i _ e => by omega)) (fun _ hi e => absurd hi (by omega)))⟩
end Go.Proofs.Ytnibbopdjeagoaa.cd
