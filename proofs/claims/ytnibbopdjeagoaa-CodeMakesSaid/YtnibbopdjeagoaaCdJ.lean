/-
  CodeMakes over what is asked of the program's codes.
-/
import Derived.Test.YtnibbopdjeagoaaCdF
namespace Go.Proofs.Ytnibbopdjeagoaa.cd
set_option maxRecDepth 100000
open Go.RowKit Go.Maps Go.Proofs.Ytnibbopdjeagoaa.fl Go.ChangeShapes Go.WideShapes Go.Deep
set_option maxRecDepth 100000

theorem has_at_J {l : List Int} {s : Nat} {x : Int} (h : l[s]? = some x) : hasB l (s : Int) = decide (0 < x) := by
  have hlt := (List.getElem?_eq_some_iff.1 h).1
  unfold hasB lenN
  rw [Int.toNat_natCast, h, decide_eq_true (show (0 : Int) ≤ (s : Int) by omega), decide_eq_true (show (s : Int) < l.length by omega)]
  simp
section
variable {H : Type} {enc : TypeId × Value → H} {w : World} {base : Nat} {spare : Nat → Bool} {held : Bool}
set_option maxRecDepth 100000 in
/-- A slice of numbers that came in. -/
theorem ints_open8 {v : Value} {d : DataW H} {ps : List MemPlace} (hs : ∀ b, spare b = true) (hsz : ∀ el sp, d = .slice el sp → (el.length + sp.length) * Try.prog.bytesOf 3 ≤ reachBytes) {base2 : Nat} (hok : Value.okWide Try.prog w .any base2 22 v) (h : DataW.Trod enc Try.prog w base spare held 22 v d ps) :
    ∃ (A : Option Addr) (cap : Nat) (l : List Int), v = .slice A l.length cap ∧ RdI w w.heap.size A l ∧ (A = none → cap = 0) ∧ l.length ≤ cap ∧ l.length ≤ 17592186043904 := by
  obtain ⟨a0, len, cap, rfl⟩ := okWide_slice Try.underlying22 hok
  obtain ⟨fuel, hf⟩ := h
  have hf' : DataW.trod enc Try.prog w base spare held fuel 22 [.slice a0 len cap] = some (d, ps) := hf
  rcases open_ints Try.underlying22 Try.underlying3 cellsI hf' with ⟨hc, _⟩ | ⟨ad, ln, cp, zs, hc, _, hl, hm, hz, hx, hcell, hwf⟩
  · simp only [List.cons.injEq, Value.slice.injEq, and_true] at hc
    obtain ⟨rfl, rfl, rfl⟩ := hc
    exact ⟨none, 0, [], rfl, RdI.nil _ _ _, fun _ => rfl, Nat.le_refl _, by simp⟩
  · simp only [List.cons.injEq, Value.slice.injEq, and_true] at hc
    obtain ⟨rfl, rfl, rfl⟩ := hc
    rw [if_pos (hs _)] at hz
    have hreach := hsz _ _ (Prod.mk.inj hx).1
    rw [bytesI] at hreach
    simp only [lits, List.length_map, List.length_take, List.length_drop, reachBytes] at hreach
    have hlen : (zs.take len).length = len := by rw [List.length_take]; omega
    refine ⟨some ad, cap, zs.take len, by rw [hlen], ⟨fun hne => ?_, fun x hx => ?_⟩, (fun e => by cases e), by rw [hlen]; exact hl, by rw [hlen]; omega⟩
    · have h0 : 0 < len := by
        rcases Nat.eq_zero_or_pos len with e | e
        · exact absurd (List.eq_nil_of_length_eq_zero (hlen.trans e)) hne
        · exact e
      obtain ⟨e1, e2⟩ := addr_of_cell (hcell 0 (by omega))
      refine ⟨ad.block, ad.off, by rw [← e1], e2, fun j x hj => ?_⟩
      have hj' : j < len := by
        have := (List.getElem?_eq_some_iff.1 hj).1
        omega
      rw [List.getElem?_take_of_lt hj'] at hj
      have h1 := cell_add e1 (hcell j (by omega))
      rw [List.getD_eq_getElem?_getD, hj] at h1
      exact h1
    · have hw := hwf x (List.mem_of_mem_take hx)
      simpa using bounds_i64 hw
end

theorem newL_of_own {w w' : World} {l : List Int} {v : Value} {n : Nat} {xs : List Value} (hn : n = l.length) (hx : xs = is l) (h : w'.ownsRow w.heap.size 3 1 v n xs) (hF : Fr (fun _ => False) w w') : NewL w l (.returned v) w' := by
  obtain ⟨A, cap, rfl, ho⟩ := OwnI.shape hn hx h
  exact ⟨A, cap, rfl, ho, hF⟩
theorem srcI2 {w : World} {B : Nat} {ad : Addr} {l : List Int} (h : RdI w B (some ad) l) : ∀ j u, (is l)[j]? = some u → w.cell? (ad.add j) = some u := by
  intro j u hu
  rw [is_get] at hu
  obtain ⟨x, hx, rfl⟩ := Option.map_eq_some_iff.1 hu
  obtain ⟨blk, off, e, _, hc⟩ := h.1 (by rintro rfl; simp at hx)
  cases e
  rw [add_plain]
  exact hc j x hx
set_option maxHeartbeats 1000000 in
theorem rints (w : World) (A : Option Addr) (cap : Nat) (l : List Int) (hr : RdI w w.heap.size A l) (hA : A = none → cap = 0) (hl : l.length ≤ 17592186043904) :
    Calls Try.prog 9 #[.slice A l.length cap] w (NewL w l) := by
  obtain ⟨i0, hi, hz0, hz1, hz2⟩ := info_parts infoI
  have hO : (w.alloc (.cells #[] 3)).ownsRow w.heap.size 3 1 (.slice (some ⟨w.heap.size, 0, none⟩) 0 0) 0 [] := World.ownsRow_made w #[] 0 (Nat.le_refl _) (Nat.zero_le _) (by simp)
  have hF : Fr (fun _ => False) w (w.alloc (.cells #[] 3)) := (Fr.refl _ w).alloc _
  have HO := Lib.hid hO
  have HF := Lib.hid hF
  have HI := Lib.hid (⟨hi, hz0, hz1, hz2⟩ : _ ∧ _ ∧ _ ∧ _)
  clear hO hF hi hz0 hz1 hz2
  obtain ⟨n, hn⟩ : ∃ n, n = l.length := ⟨_, rfl⟩
  rw [← hn]
  have hn' : n ≤ 17592186043904 := by omega
  have HN := Lib.hid hn
  cases A with
  | none =>
    have h0 : l = [] := by
      apply Decidable.byContradiction
      intro hne
      obtain ⟨_, _, e, _⟩ := hr.1 hne
      cases e
    obtain rfl : cap = 0 := hA rfl
    obtain rfl : n = 0 := by rw [hn, h0]; rfl
    have H0 := Lib.hid h0
    clear hr hA hl hn h0
    go_enter Try.func9, Try.ntmps9
    go_wp2_with (at_builtin; refine wpList_append_own_none rfl (.tmp 3) (.tmp 4) 22 rfl w.heap.size 3 i0 1 Try.underlying22 HI.out.1 _ 0 [] rfl HO.out rfl ?_)
    go_ret
    exact newL_of_own HN.out (by rw [H0.out]; rfl) HO.out HF.out
  | some ad =>
    have hr1 := hr.still HF.out (Nat.le_refl _)
    have HS := Lib.hid (srcI2 hr1)
    clear hr hA hl hn hr1
    go_enter Try.func9, Try.ntmps9
    go_wp2_with (at_builtin; refine wpList_append_own _ rfl (.tmp 3) (.tmp 4) 22 rfl w.heap.size 3 i0 (.int .i64 0) 1 8 Try.underlying22 HI.out.1 HI.out.2.1 HI.out.2.2.1 HI.out.2.2.2 rfl (by omega) _ 0 [] rfl HO.out ad n cap (is l) rfl ?c1 HS.out (is_one l) ?c2 ?c3 ?c4 ?c5)
    case c1 => rw [is_length, ← HN.out]; omega
    case c2 => unfold maxLen; omega
    case c3 => omega
    case c4 => simp
    case c5 =>
      intro v' w1 hown hgrow hnil
      have hfr := HF.out.grown hgrow (fun k hk => Or.inr (by simp [Value.ownBlock] at hk; omega))
      have HW := Lib.hid (⟨hown, hfr⟩ : _ ∧ _)
      clear hown hgrow hnil hfr
      go_wp2
      go_ret
      exact newL_of_own HN.out rfl HW.out.1 HW.out.2
theorem codes_has {l : List Int} (_ : okB l = true) {i : Nat} (hi : i < l.length) : codesN (l.take (i + 1)) = codesN (l.take i) + if hasB l (i : Int) = true then 1 else 0 := by
  rw [codes_take (List.getElem?_eq_getElem hi), has_at_J (List.getElem?_eq_getElem hi)]
  simp
theorem len_zero {l : List Int} (_ : okB l = true) {i : Nat} (hi : i < l.length) (hb : hasB l (i : Int) = false) : lenN l i = 0 := by
  unfold hasB at hb
  rw [Int.toNat_natCast, decide_eq_true (show (0 : Int) ≤ (i : Int) by omega), decide_eq_true (show (i : Int) < l.length by omega)] at hb
  simpa using hb
theorem fix_in : ∀ x ∈ fixI, -9223372036854775808 ≤ x ∧ x ≤ 9223372036854775807 := fun x hx => by
  unfold fixI at hx
  obtain ⟨i, _, rfl⟩ := List.mem_map.1 hx
  split
  · omega
  · split
    · omega
    · split <;> omega
section
variable {R : RP} {V : VP} {C : CP}
set_option maxHeartbeats 1600000 in
theorem makes_walk (HF : FlowP R V) (HP : CodeP R V C) (w : World) (A : Option Addr) (cap : Nat) (l : List Int) (sb : Int) (hr : RdI w w.heap.size A l) (hA : A = none → cap = 0) (hl : l.length ≤ 17592186043904) (hsb : Big sb) :
    Calls Try.prog 3 #[.slice A l.length cap, .int .i64 sb] w fun e w' => e = .returned (.bool true) ∧ Fr (fun _ => False) w w' := by
  have HPP := Lib.hid (⟨HF, HP⟩ : _ ∧ _)
  have HI := Lib.hid (⟨hr, hA⟩ : _ ∧ _)
  have HB := Lib.hid (⟨by omega, hr.2⟩ : l.length ≤ 140737488351232 ∧ ∀ x ∈ l, -9223372036854775808 ≤ x ∧ x ≤ 9223372036854775807)
  have HIN := Lib.hid (rints w A cap l hr hA hl)
  have HSB := Lib.hid hsb
  obtain ⟨n, hn⟩ : ∃ n, n = l.length := ⟨_, rfl⟩
  have HN := Lib.hid hn
  have hn8 : n ≤ 17592186043904 := by omega
  rw [← hn]
  rw [← hn] at HIN
  unfold NewL at HIN
  clear HF HP hr hA hl hn hsb
  go_enter Try.func3, Try.ntmps3
  go_wp2_with fail
  refine HIN.out.mono ?_
  rintro e w1 ⟨Ao, co, rfl, ho, hF1⟩
  rw [← HN.out]
  have HO1 := Lib.hid (⟨ho, hF1⟩ : _ ∧ _)
  have HCP := Lib.hid (own_cap2 ho)
  clear ho hF1 HIN
  cases hok : okB l with
  | false =>
    have HNW := Lib.hid (HPP.out.2.new_no w1 Ao co l (OwnI.rd HO1.out.1 HB.out.2) HCP.out.1 HCP.out.2 HB.out.1 hok)
    rw [← HN.out] at HNW
    have HCH := Lib.hid (chk_no hok)
    clear hok
    go_wp2_with fail
    refine HNW.out.mono ?_
    rintro e w2 ⟨rfl, hF2⟩
    have HO2 := Lib.hid (⟨HO1.out.1.kept hF2, HO1.out.2.trans hF2 (fun _ _ e => e)⟩ : OwnI w2 w.heap.size (.slice Ao l.length co) l ∧ Fr (fun _ => False) w w2)
    clear hF2 HNW
    have HCK := Lib.hid (rcheck w2 A cap w2.heap.size l (rdI_more (HI.out.1.still HO2.out.2 (Nat.le_refl _)) HO2.out.2.size) HB.out.1)
    rw [← HN.out, HCH.out] at HCK
    go_wp2_with fail
    refine HCK.out.mono ?_
    rintro e w3 ⟨rfl, rfl⟩
    have HRM := Lib.hid (HPP.out.2.room w2 Ao co l (OwnI.rd HO2.out.1 HB.out.2) HCP.out.1 HCP.out.2 HB.out.1)
    obtain ⟨ρ, hρ⟩ : ∃ ρ, ρ = roomI l := ⟨_, rfl⟩
    have HRHO := Lib.hid hρ
    rw [← HN.out, ← hρ] at HRM
    clear hρ HCK
    go_wp2_with fail
    refine HRM.out.mono ?_
    rintro e w3 ⟨rfl, hF3⟩
    have HO3 := Lib.hid (⟨HO2.out.1.kept hF3, HO2.out.2.trans hF3 (fun _ _ e => e), hF3⟩ : OwnI w3 w.heap.size (.slice Ao l.length co) l ∧ Fr (fun _ => False) w w3 ∧ Fr (fun _ => False) w2 w3)
    have HRR := Lib.hid (rroom w3 A cap w3.heap.size l (rdI_more (HI.out.1.still HO3.out.2.1 (Nat.le_refl _)) HO3.out.2.1.size) HB.out.1)
    rw [← HN.out, ← HRHO.out] at HRR
    clear hF3 HRM
    go_wp2_with fail
    refine HRR.out.mono ?_
    rintro e w' ⟨rfl, rfl⟩
    have HSM := Lib.hid (sameI_any w3 Ao A w3.heap.size w3.heap.size co cap l l (OwnI.rd HO3.out.1 HB.out.2) (rdI_more (HI.out.1.still HO3.out.2.1 (Nat.le_refl _)) HO3.out.2.1.size) HB.out.1)
    rw [decide_eq_true rfl, ← HN.out] at HSM
    clear HRR
    go_wp2_with fail
    refine HSM.out.mono ?_
    rintro e w4 ⟨rfl, hC4⟩
    have HO4 := Lib.hid (⟨HO3.out.1.kept hC4.fr, HO3.out.2.1.trans hC4.fr (fun _ _ e => e), HO3.out.2.2.trans hC4.fr (fun _ _ e => e)⟩ : OwnI w4 w.heap.size (.slice Ao l.length co) l ∧ Fr (fun _ => False) w w4 ∧ Fr (fun _ => False) w2 w4)
    clear hC4 HSM HO3
    go_wp2_with fail
    refine (HPP.out.2.fixed w4).mono ?_
    rintro e w5 ⟨Af, cf, rfl, hof, hF5⟩
    have HO5 := Lib.hid (⟨hof, hF5⟩ : _ ∧ _)
    clear hof hF5
    go_wp2_with fail
    refine (rfixed w5).mono ?_
    rintro e w6 ⟨Ag, cg, rfl, hog, hF6⟩
    have HSF := Lib.hid (sameI_any w6 Af Ag w6.heap.size w6.heap.size cf cg fixI fixI (OwnI.rd (HO5.out.1.kept hF6) fix_in) (OwnI.rd hog fix_in) (by rw [fix_len]; omega))
    rw [decide_eq_true rfl] at HSF
    have HF6 := Lib.hid (HO5.out.2.trans hF6 (fun _ _ e => e))
    clear hog hF6
    go_wp2_with fail
    refine HSF.out.mono ?_
    rintro e w7 ⟨rfl, hC7⟩
    have hF47 := HF6.out.trans hC7.fr (fun _ _ e => e)
    have HO7 := Lib.hid (⟨HO4.out.1.kept hF47, HO4.out.2.1.trans hF47 (fun _ _ e => e), HO4.out.2.2.trans hF47 (fun _ _ e => e)⟩ : OwnI w7 w.heap.size (.slice Ao l.length co) l ∧ Fr (fun _ => False) w w7 ∧ Fr (fun _ => False) w2 w7)
    clear hC7 hF47 HO4 HO5 HSF HF6
    go_wp2_with fail
    go_ret
    exact ⟨rfl, HO7.out.2.1⟩
  | true =>
    have HNW := Lib.hid (HPP.out.2.new_ok w1 Ao co l (OwnI.rd HO1.out.1 HB.out.2) HCP.out.1 HCP.out.2 HB.out.1 hok)
    rw [← HN.out] at HNW
    have HCH := Lib.hid (chk_yes hok)
    have hn288 : n ≤ 288 := by rw [HN.out]; exact ((okB_iff l).1 hok).1
    have HOK := Lib.hid hok
    clear hok
    go_wp2_with fail
    refine HNW.out.mono ?_
    rintro e w2 ⟨c, S, rfl, hC, hS, hF2⟩
    have HO2 := Lib.hid (⟨HO1.out.1.kept hF2, HO1.out.2.trans hF2 (fun _ _ e => e)⟩ : OwnI w2 w.heap.size (.slice Ao l.length co) l ∧ Fr (fun _ => False) w w2)
    have HC := Lib.hid (⟨hC, hS, fun g hg => (World.ownsRow.lt HO1.out.1 g hg).2⟩ : C w2 c l S ∧ (∀ i, S i → w1.heap.size ≤ i) ∧ ∀ g, (Value.slice Ao l.length co).ownBlock = some g → g < w1.heap.size)
    clear hC hS hF2 HNW
    have HCK := Lib.hid (rcheck w2 A cap w2.heap.size l (rdI_more (HI.out.1.still HO2.out.2 (Nat.le_refl _)) HO2.out.2.size) HB.out.1)
    rw [← HN.out, HCH.out] at HCK
    go_wp2_with fail
    refine HCK.out.mono ?_
    rintro e w3 ⟨rfl, rfl⟩
    have HRM := Lib.hid (HPP.out.2.room w2 Ao co l (OwnI.rd HO2.out.1 HB.out.2) HCP.out.1 HCP.out.2 HB.out.1)
    obtain ⟨ρ, hρ⟩ : ∃ ρ, ρ = roomI l := ⟨_, rfl⟩
    have HRHO := Lib.hid hρ
    rw [← HN.out, ← hρ] at HRM
    clear hρ HCK
    go_wp2_with fail
    refine HRM.out.mono ?_
    rintro e w3 ⟨rfl, hF3⟩
    have HO3 := Lib.hid (⟨HO2.out.1.kept hF3, HO2.out.2.trans hF3 (fun _ _ e => e), hF3⟩ : OwnI w3 w.heap.size (.slice Ao l.length co) l ∧ Fr (fun _ => False) w w3 ∧ Fr (fun _ => False) w2 w3)
    have HRR := Lib.hid (rroom w3 A cap w3.heap.size l (rdI_more (HI.out.1.still HO3.out.2.1 (Nat.le_refl _)) HO3.out.2.1.size) HB.out.1)
    rw [← HN.out, ← HRHO.out] at HRR
    clear hF3 HRM
    go_wp2_with fail
    refine HRR.out.mono ?_
    rintro e w' ⟨rfl, rfl⟩
    have HSM := Lib.hid (sameI_any w3 Ao A w3.heap.size w3.heap.size co cap l l (OwnI.rd HO3.out.1 HB.out.2) (rdI_more (HI.out.1.still HO3.out.2.1 (Nat.le_refl _)) HO3.out.2.1.size) HB.out.1)
    rw [decide_eq_true rfl, ← HN.out] at HSM
    clear HRR
    go_wp2_with fail
    refine HSM.out.mono ?_
    rintro e w4 ⟨rfl, hC4⟩
    have HO4 := Lib.hid (⟨HO3.out.1.kept hC4.fr, HO3.out.2.1.trans hC4.fr (fun _ _ e => e), HO3.out.2.2.trans hC4.fr (fun _ _ e => e)⟩ : OwnI w4 w.heap.size (.slice Ao l.length co) l ∧ Fr (fun _ => False) w w4 ∧ Fr (fun _ => False) w2 w4)
    clear hC4 HSM HO3
    go_wp2_with fail
    refine (HPP.out.2.fixed w4).mono ?_
    rintro e w5 ⟨Af, cf, rfl, hof, hF5⟩
    have HO5 := Lib.hid (⟨hof, hF5⟩ : _ ∧ _)
    clear hof hF5
    go_wp2_with fail
    refine (rfixed w5).mono ?_
    rintro e w6 ⟨Ag, cg, rfl, hog, hF6⟩
    have HSF := Lib.hid (sameI_any w6 Af Ag w6.heap.size w6.heap.size cf cg fixI fixI (OwnI.rd (HO5.out.1.kept hF6) fix_in) (OwnI.rd hog fix_in) (by rw [fix_len]; omega))
    rw [decide_eq_true rfl] at HSF
    have HF6 := Lib.hid (HO5.out.2.trans hF6 (fun _ _ e => e))
    clear hog hF6
    go_wp2_with fail
    refine HSF.out.mono ?_
    rintro e w7 ⟨rfl, hC7⟩
    have hF47 := HF6.out.trans hC7.fr (fun _ _ e => e)
    have HO7 := Lib.hid (⟨HO4.out.1.kept hF47, HO4.out.2.1.trans hF47 (fun _ _ e => e), HO4.out.2.2.trans hF47 (fun _ _ e => e)⟩ : OwnI w7 w.heap.size (.slice Ao l.length co) l ∧ Fr (fun _ => False) w w7 ∧ Fr (fun _ => False) w2 w7)
    clear hC7 hF47 HO4 HO5 HSF HF6
    go_wp2_with fail
    go_loopw [8] (fun v8 wr => ∃ i : Nat, i ≤ n ∧ v8 = .int .i64 i ∧ Hid (∃ lst : List Int, lst.length = n ∧ OwnI wr w.heap.size (.slice Ao n co) lst ∧ C wr c l S ∧ Fr (fun _ => False) w wr)) (fun v _ => n - (intOf v).toNat)
    case atStart => exact ⟨0, Nat.zero_le _, rfl, (show ∃ lst : List Int, _ from ⟨l, HN.out.symm, by rw [HN.out]; exact HO7.out.1, HPP.out.2.c_keep HC.out.1 HO7.out.2.2 (fun _ _ e => e), HO7.out.2.1⟩)⟩
    case round =>
      obtain ⟨i, hi, rfl, HQ⟩ := hrel
      clear HO7
      by_cases hlt : i < n
      · obtain ⟨lst, hll, hol, hCr, hFr⟩ := HQ.out
        have hol2 := hol
        rw [← hll] at hol2
        obtain ⟨g, rfl, hg, hg2, hc, hf, hset⟩ := OwnI.at_ hol2 (k := i) (by omega)
        have hnew := hset 7
        rw [List.length_set, hll] at hnew
        have hFg : Fr (fun b => b = g) wr (wr.setCell ⟨g, i, none⟩ (.int .i64 7)) := (Fr.refl (fun b => b = g) wr).setCell (p := ⟨g, i, none⟩) (Or.inl rfl) _
        have HNEW := Lib.hid (⟨lst.set i 7, by rw [List.length_set, hll], hnew, HPP.out.2.c_keep hCr hFg (fun b hb e => by
          have h1 := HC.out.2.1 b hb
          have h2 := HC.out.2.2 g rfl
          omega), hFr.setCell (p := ⟨g, i, none⟩) (Or.inr hg) _⟩ : ∃ lst : List Int, lst.length = n ∧ OwnI (wr.setCell ⟨g, i, none⟩ (.int .i64 7)) w.heap.size (.slice (some ⟨g, 0, none⟩) n co) lst ∧ C (wr.setCell ⟨g, i, none⟩ (.int .i64 7)) c l S ∧ Fr (fun _ => False) w (wr.setCell ⟨g, i, none⟩ (.int .i64 7)))
        generalize lst[i]'(by omega) = z at hc
        clear hset hnew hol hol2 hll hg hg2 hCr hFr hFg
        go_wp2_with fail
        go_roundw
        case rel => exact ⟨i + 1, by omega, by go_num, HNEW⟩
        case measure => simp [intOf]; omega
      · obtain ⟨lst, -, -, hCr, hFr⟩ := HQ.out
        have HWD := Lib.hid (rwords wr A cap l (rdI_more (HI.out.1.still hFr (Nat.le_refl _)) hFr.size) HOK.out)
        rw [← HN.out] at HWD
        have HQ2 := Lib.hid (⟨hCr, hFr⟩ : _ ∧ _)
        clear hCr hFr HQ
        go_wp2_with fail
        refine HWD.out.mono ?_
        rintro e w9 ⟨Aw, cw, rfl, hW, hF9⟩
        obtain ⟨wl, hwl⟩ : ∃ x, x = wr.heap.size := ⟨_, rfl⟩
        obtain ⟨wh, hwh⟩ : ∃ x, x = w9.heap.size := ⟨_, rfl⟩
        rw [← hwl, ← hwh] at hW
        have H9 := Lib.hid (⟨rfl, HPP.out.2.c_keep HQ2.out.1 hF9 (fun _ _ e => e), HQ2.out.2.trans hF9 (fun _ _ e => e), hW, by omega⟩ : 0 = codesN (l.take 0) ∧ C w9 c l S ∧ Fr (fun _ => False) w w9 ∧ RdW w9 wl wh Aw (wordsL l) ∧ wh ≤ w9.heap.size)
        clear hW hF9 hwl hwh HWD HQ2
        go_wp2_with fail
        go_loopw [10, 11] (fun v10 v11 wr => ∃ i k : Nat, i ≤ n ∧ k ≤ i ∧ v11 = .int .i64 i ∧ v10 = .int .i64 k ∧ Hid (k = codesN (l.take i) ∧ C wr c l S ∧ Fr (fun _ => False) w wr ∧ RdW wr wl wh Aw (wordsL l) ∧ wh ≤ wr.heap.size)) (fun _ v _ => n - (intOf v).toNat)
        case atStart => exact ⟨0, 0, Nat.zero_le _, Nat.le_refl _, rfl, rfl, H9⟩
        case round =>
          obtain ⟨i, k, hi, hki, rfl, rfl, HK⟩ := hrel
          clear H9
          by_cases hlt2 : i < n
          · have hil : i < l.length := by have := HN.out; omega
            have HWI := Lib.hid (HPP.out.2.word wr c l S (i : Int) HK.out.2.1 (by omega))
            have hcd := codes_has HOK.out hil
            rw [← HK.out.1] at hcd
            have hwg := wordsL_get hil
            cases hb : hasB l (i : Int) with
            | false =>
              rw [hb] at hcd
              rw [sym_no hb] at HWI
              have hz := len_zero HOK.out hil hb
              have HCD := Lib.hid (show k = codesN (l.take (i + 1)) by rw [hcd]; simp)
              have HWG := Lib.hid (⟨hwg, by rw [wordB_length]; exact hz⟩ : _ ∧ (wordB l i).length = 0)
              clear hcd hwg hz hb hil
              go_wp2_with fail
              refine HWI.out.mono ?_
              rintro e w10 ⟨rfl, hF10⟩
              have hW10 := HK.out.2.2.2.1.still hF10 HK.out.2.2.2.2
              obtain ⟨gw, A', c2, rfl, -, -, hcw, -⟩ := hW10.at_ HWG.out.1
              rw [HWG.out.2] at hcw
              have HD := Lib.hid (⟨HCD.out, HPP.out.2.c_keep HK.out.2.1 hF10 (fun _ _ e => e), HK.out.2.2.1.trans hF10 (fun _ _ e => e), hW10, Nat.le_trans HK.out.2.2.2.2 hF10.size⟩ : k = codesN (l.take (i + 1)) ∧ C w10 c l S ∧ Fr (fun _ => False) w w10 ∧ RdW w10 wl wh (some ⟨gw, 0, none⟩) (wordsL l) ∧ wh ≤ w10.heap.size)
              clear hF10 hW10 HWI
              go_wp2_with fail
              go_roundw
              case rel => exact ⟨i + 1, k, by omega, by omega, by go_num, rfl, HD⟩
              case measure => simp [intOf]; omega
            | true =>
              rw [hb] at hcd
              have hin := word_in HOK.out hb
              have hhas := has_of HOK.out hb
              rw [sym_yes hb] at HWI
              rw [Int.toNat_natCast] at HWI hin hhas
              have hvh := valH_word (by have := ((okB_iff l).1 HOK.out).2.2; omega) hin.2.1 hhas
              obtain ⟨X, hX⟩ : ∃ X, X = wordN l i := ⟨_, rfl⟩
              obtain ⟨N, hN⟩ : ∃ N, N = lenN l i := ⟨_, rfl⟩
              rw [← hX, ← hN] at HWI hin
              rw [← hX] at hvh
              have HCD := Lib.hid (show k + 1 = codesN (l.take (i + 1)) by rw [hcd]; simp)
              have HWG := Lib.hid (⟨hwg, by rw [wordB_length]; exact hN, hvh⟩ : _ ∧ N = (wordB l i).length ∧ valH (wordB l i) = X)
              obtain ⟨hX8, hN15, hN1⟩ := hin
              clear hcd hwg hhas hvh hX hN hb hil
              go_wp2_with fail
              refine HWI.out.mono ?_
              rintro e w10 ⟨rfl, hF10⟩
              have hW10 := HK.out.2.2.2.1.still hF10 HK.out.2.2.2.2
              obtain ⟨gw, A', c2, rfl, -, -, hcw, hTw⟩ := hW10.at_ HWG.out.1
              have HRH := Lib.hid (rrefHigh w10 A' c2 wh (wordB l i) (hTw.rdI (wordB_bits l i)) (by rw [← HWG.out.2.1]; exact hN15) (wordB_bits l i))
              rw [← HWG.out.2.1, HWG.out.2.2] at HRH
              rw [← HWG.out.2.1] at hcw
              have HD := Lib.hid (⟨HCD.out, HPP.out.2.c_keep HK.out.2.1 hF10 (fun _ _ e => e), HK.out.2.2.1.trans hF10 (fun _ _ e => e), hW10, Nat.le_trans HK.out.2.2.2.2 hF10.size⟩ : k + 1 = codesN (l.take (i + 1)) ∧ C w10 c l S ∧ Fr (fun _ => False) w w10 ∧ RdW w10 wl wh (some ⟨gw, 0, none⟩) (wordsL l) ∧ wh ≤ w10.heap.size)
              clear hF10 hW10 HWI hTw
              go_wp2_with fail
              refine HRH.out.mono ?_
              rintro e w11 ⟨rfl, rfl⟩
              go_wp2_with fail
              go_roundw
              case rel => exact ⟨i + 1, k + 1, by omega, by omega, by go_num, by go_num, HD⟩
              case measure => simp [intOf]; omega
          · have HKE := Lib.hid (show k = codesN l by rw [HK.out.1, List.take_of_length_le (by have := HN.out; omega)])
            have HWS := Lib.hid (HPP.out.2.word wr c l S sb HK.out.2.1 HSB.out)
            have hcase : (sb < 0 ∨ (n : Int) ≤ sb) ∨ (0 ≤ sb ∧ sb < n) := by omega
            rcases hcase with hcase | ⟨hs0, hsn⟩
            · have hno : hasB l sb = false := by
                cases hb : hasB l sb with
                | false => rfl
                | true =>
                  have := (hasB_iff l sb).1 hb
                  have := HN.out
                  omega
              rw [sym_no hno] at HWS
              clear hno
              have hcase2 : sb < 0 ∨ (0 ≤ sb ∧ (n : Int) ≤ sb) := by omega
              clear hcase
              rcases hcase2 with g1 | ⟨g0, g1⟩
              all_goals
                go_wp2_with fail
                refine HWS.out.mono ?_
                rintro e w10 ⟨rfl, hF10⟩
                have HC10 := Lib.hid (⟨HPP.out.2.c_keep HK.out.2.1 hF10 (fun _ _ e => e), HK.out.2.2.1.trans hF10 (fun _ _ e => e)⟩ : C w10 c l S ∧ Fr (fun _ => False) w w10)
                have HSY := Lib.hid (HPP.out.2.symbols w10 c l S HC10.out.1)
                rw [← HKE.out] at HSY
                clear hF10 HWS
                go_wp2_with fail
                refine HSY.out.mono ?_
                rintro e w11 ⟨rfl, hF11⟩
                have HF11 := Lib.hid (HC10.out.2.trans hF11 (fun _ _ e => e))
                clear hF11 HSY
                go_wp2_with fail
                refine (cworks HPP.out.1 HPP.out.2 w11).mono ?_
                rintro e w12 ⟨rfl, hF12⟩
                have HF12 := Lib.hid (HF11.out.trans hF12 (fun _ _ e => e))
                clear hF12
                go_wp2_with fail
                go_ret
                first | exact ⟨rfl, HF12.out⟩ | exact ⟨by rw [decide_eq_false (show ¬ 0 < x by omega)]; rfl, HF12.out⟩
            · obtain ⟨s, rfl⟩ : ∃ s : Nat, sb = s := ⟨sb.toNat, by omega⟩
              have hsl : s < l.length := by have := HN.out; omega
              have hget := List.getElem?_eq_getElem hsl
              have hx0 := (((okB_iff l).1 HOK.out).2.1 l[s] (List.getElem_mem hsl)).1
              obtain ⟨x, hx⟩ : ∃ x, x = l[s] := ⟨_, rfl⟩
              rw [← hx] at hget hx0
              have hhas := has_at_J hget
              obtain ⟨t, ht⟩ : ∃ t, t = n - 1 := ⟨_, rfl⟩
              have hnm : (n : Int) - 1 = (t : Int) := by omega
              obtain ⟨bl, of, rfl, -, hcl, -, -⟩ := (HI.out.1.still HK.out.2.2.1 (Nat.le_refl _)).at_ hsl
              rw [← hx] at hcl
              have hCEL : ∀ w' : World, Fr (fun _ => False) wr w' → w'.cell? ⟨bl, of + s, none⟩ = some (.int .i64 x) := fun w' hF => by
                obtain ⟨bl2, of2, e2, -, hcl2, -, -⟩ := (HI.out.1.still (HK.out.2.2.1.trans hF (fun _ _ e => e)) (Nat.le_refl _)).at_ hsl
                cases e2
                rw [← hx] at hcl2
                exact hcl2
              have HCL := Lib.hid hCEL
              have hcase : (s = 0 ∧ 0 < t) ∨ (s = 0 ∧ ¬ 0 < t) ∨ (s = t ∧ 0 < s) ∨ (s < t ∧ 0 < s) := by omega
              have hsn2 : s < n := by omega
              clear hget hx hsl ht hcl hCEL hs0 hsn
              by_cases hxp : 0 < x
              · rw [decide_eq_true hxp] at hhas
                rw [sym_yes hhas, Int.toNat_natCast] at HWS
                obtain ⟨X, hX⟩ : ∃ X, X = wordN l s := ⟨_, rfl⟩
                obtain ⟨N, hN⟩ : ∃ N, N = lenN l s := ⟨_, rfl⟩
                rw [← hX, ← hN] at HWS
                clear hhas hX hN
                rcases hcase with ⟨h0, g1⟩ | ⟨h0, g1⟩ | ⟨rfl, g1⟩ | ⟨g0, g1⟩
                case' inl =>
                  subst h0
                  rw [show ((0 : Nat) : Int) = 0 from rfl] at *
                  go_wp2_with fail
                  refine HWS.out.mono ?_
                  rintro e w10 ⟨rfl, hF10⟩
                  have hcx := HCL.out w10 hF10
                  rw [Nat.add_zero] at hcx
                  have HC10 := Lib.hid (⟨HPP.out.2.c_keep HK.out.2.1 hF10 (fun _ _ e => e), HK.out.2.2.1.trans hF10 (fun _ _ e => e)⟩ : C w10 c l S ∧ Fr (fun _ => False) w w10)
                  have HSY := Lib.hid (HPP.out.2.symbols w10 c l S HC10.out.1)
                  rw [← HKE.out] at HSY
                  clear hF10 HWS
                  go_wp2_with fail
                  refine HSY.out.mono ?_
                  rintro e w11 ⟨rfl, hF11⟩
                  have HF11 := Lib.hid (HC10.out.2.trans hF11 (fun _ _ e => e))
                  clear hF11 HSY
                  go_wp2_with fail
                  refine (cworks HPP.out.1 HPP.out.2 w11).mono ?_
                  rintro e w12 ⟨rfl, hF12⟩
                  have HF12 := Lib.hid (HF11.out.trans hF12 (fun _ _ e => e))
                  clear hF12
                  go_wp2_with fail
                  go_ret
                  first | exact ⟨rfl, HF12.out⟩ | exact ⟨by rw [decide_eq_false (show ¬ 0 < x by omega)]; rfl, HF12.out⟩
                case' inr.inl =>
                  subst h0
                  rw [show ((0 : Nat) : Int) = 0 from rfl] at *
                  go_wp2_with fail
                  refine HWS.out.mono ?_
                  rintro e w10 ⟨rfl, hF10⟩
                  have hcx := HCL.out w10 hF10
                  rw [Nat.add_zero] at hcx
                  have HC10 := Lib.hid (⟨HPP.out.2.c_keep HK.out.2.1 hF10 (fun _ _ e => e), HK.out.2.2.1.trans hF10 (fun _ _ e => e)⟩ : C w10 c l S ∧ Fr (fun _ => False) w w10)
                  have HSY := Lib.hid (HPP.out.2.symbols w10 c l S HC10.out.1)
                  rw [← HKE.out] at HSY
                  clear hF10 HWS
                  go_wp2_with fail
                  refine HSY.out.mono ?_
                  rintro e w11 ⟨rfl, hF11⟩
                  have HF11 := Lib.hid (HC10.out.2.trans hF11 (fun _ _ e => e))
                  clear hF11 HSY
                  go_wp2_with fail
                  refine (cworks HPP.out.1 HPP.out.2 w11).mono ?_
                  rintro e w12 ⟨rfl, hF12⟩
                  have HF12 := Lib.hid (HF11.out.trans hF12 (fun _ _ e => e))
                  clear hF12
                  go_wp2_with fail
                  go_ret
                  first | exact ⟨rfl, HF12.out⟩ | exact ⟨by rw [decide_eq_false (show ¬ 0 < x by omega)]; rfl, HF12.out⟩
                all_goals
                  go_wp2_with fail
                  refine HWS.out.mono ?_
                  rintro e w10 ⟨rfl, hF10⟩
                  have hcx := HCL.out w10 hF10
                  have HC10 := Lib.hid (⟨HPP.out.2.c_keep HK.out.2.1 hF10 (fun _ _ e => e), HK.out.2.2.1.trans hF10 (fun _ _ e => e)⟩ : C w10 c l S ∧ Fr (fun _ => False) w w10)
                  have HSY := Lib.hid (HPP.out.2.symbols w10 c l S HC10.out.1)
                  rw [← HKE.out] at HSY
                  clear hF10 HWS
                  go_wp2_with fail
                  refine HSY.out.mono ?_
                  rintro e w11 ⟨rfl, hF11⟩
                  have HF11 := Lib.hid (HC10.out.2.trans hF11 (fun _ _ e => e))
                  clear hF11 HSY
                  go_wp2_with fail
                  refine (cworks HPP.out.1 HPP.out.2 w11).mono ?_
                  rintro e w12 ⟨rfl, hF12⟩
                  have HF12 := Lib.hid (HF11.out.trans hF12 (fun _ _ e => e))
                  clear hF12
                  go_wp2_with fail
                  go_ret
                  first | exact ⟨rfl, HF12.out⟩ | exact ⟨by rw [decide_eq_false (show ¬ 0 < x by omega)]; rfl, HF12.out⟩
              · rw [decide_eq_false hxp] at hhas
                rw [sym_no hhas] at HWS
                clear hhas
                rcases hcase with ⟨h0, g1⟩ | ⟨h0, g1⟩ | ⟨rfl, g1⟩ | ⟨g0, g1⟩
                case' inl =>
                  subst h0
                  rw [show ((0 : Nat) : Int) = 0 from rfl] at *
                  go_wp2_with fail
                  refine HWS.out.mono ?_
                  rintro e w10 ⟨rfl, hF10⟩
                  have hcx := HCL.out w10 hF10
                  rw [Nat.add_zero] at hcx
                  have HC10 := Lib.hid (⟨HPP.out.2.c_keep HK.out.2.1 hF10 (fun _ _ e => e), HK.out.2.2.1.trans hF10 (fun _ _ e => e)⟩ : C w10 c l S ∧ Fr (fun _ => False) w w10)
                  have HSY := Lib.hid (HPP.out.2.symbols w10 c l S HC10.out.1)
                  rw [← HKE.out] at HSY
                  clear hF10 HWS
                  go_wp2_with fail
                  refine HSY.out.mono ?_
                  rintro e w11 ⟨rfl, hF11⟩
                  have HF11 := Lib.hid (HC10.out.2.trans hF11 (fun _ _ e => e))
                  clear hF11 HSY
                  go_wp2_with fail
                  refine (cworks HPP.out.1 HPP.out.2 w11).mono ?_
                  rintro e w12 ⟨rfl, hF12⟩
                  have HF12 := Lib.hid (HF11.out.trans hF12 (fun _ _ e => e))
                  clear hF12
                  go_wp2_with fail
                  go_ret
                  first | exact ⟨rfl, HF12.out⟩ | exact ⟨by rw [decide_eq_false (show ¬ 0 < x by omega)]; rfl, HF12.out⟩
                case' inr.inl =>
                  subst h0
                  rw [show ((0 : Nat) : Int) = 0 from rfl] at *
                  go_wp2_with fail
                  refine HWS.out.mono ?_
                  rintro e w10 ⟨rfl, hF10⟩
                  have hcx := HCL.out w10 hF10
                  rw [Nat.add_zero] at hcx
                  have HC10 := Lib.hid (⟨HPP.out.2.c_keep HK.out.2.1 hF10 (fun _ _ e => e), HK.out.2.2.1.trans hF10 (fun _ _ e => e)⟩ : C w10 c l S ∧ Fr (fun _ => False) w w10)
                  have HSY := Lib.hid (HPP.out.2.symbols w10 c l S HC10.out.1)
                  rw [← HKE.out] at HSY
                  clear hF10 HWS
                  go_wp2_with fail
                  refine HSY.out.mono ?_
                  rintro e w11 ⟨rfl, hF11⟩
                  have HF11 := Lib.hid (HC10.out.2.trans hF11 (fun _ _ e => e))
                  clear hF11 HSY
                  go_wp2_with fail
                  refine (cworks HPP.out.1 HPP.out.2 w11).mono ?_
                  rintro e w12 ⟨rfl, hF12⟩
                  have HF12 := Lib.hid (HF11.out.trans hF12 (fun _ _ e => e))
                  clear hF12
                  go_wp2_with fail
                  go_ret
                  first | exact ⟨rfl, HF12.out⟩ | exact ⟨by rw [decide_eq_false (show ¬ 0 < x by omega)]; rfl, HF12.out⟩
                all_goals
                  go_wp2_with fail
                  refine HWS.out.mono ?_
                  rintro e w10 ⟨rfl, hF10⟩
                  have hcx := HCL.out w10 hF10
                  have HC10 := Lib.hid (⟨HPP.out.2.c_keep HK.out.2.1 hF10 (fun _ _ e => e), HK.out.2.2.1.trans hF10 (fun _ _ e => e)⟩ : C w10 c l S ∧ Fr (fun _ => False) w w10)
                  have HSY := Lib.hid (HPP.out.2.symbols w10 c l S HC10.out.1)
                  rw [← HKE.out] at HSY
                  clear hF10 HWS
                  go_wp2_with fail
                  refine HSY.out.mono ?_
                  rintro e w11 ⟨rfl, hF11⟩
                  have HF11 := Lib.hid (HC10.out.2.trans hF11 (fun _ _ e => e))
                  clear hF11 HSY
                  go_wp2_with fail
                  refine (cworks HPP.out.1 HPP.out.2 w11).mono ?_
                  rintro e w12 ⟨rfl, hF12⟩
                  have HF12 := Lib.hid (HF11.out.trans hF12 (fun _ _ e => e))
                  clear hF12
                  go_wp2_with fail
                  go_ret
                  first | exact ⟨rfl, HF12.out⟩ | exact ⟨by rw [decide_eq_false (show ¬ 0 < x by omega)]; rfl, HF12.out⟩
end
end Go.Proofs.Ytnibbopdjeagoaa.cd
