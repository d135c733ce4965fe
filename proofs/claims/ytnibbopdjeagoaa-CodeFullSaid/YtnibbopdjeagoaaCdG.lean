/-
  CodeFull over what is asked of the program's codes.
-/
import Derived.Test.YtnibbopdjeagoaaCdF
namespace Go.Proofs.Ytnibbopdjeagoaa.cd
set_option maxRecDepth 100000
open Go.RowKit Go.Maps Go.Proofs.Ytnibbopdjeagoaa.fl
set_option maxRecDepth 100000

open Classical in
/-- The least number of a kind. -/
noncomputable def leastOf (P : Nat → Prop) : Nat := if h : ∃ n, P n ∧ ∀ m, P m → n ≤ m then Classical.choose h else 0
theorem least_is {P : Nat → Prop} : ∀ (k n : Nat), n ≤ k → P n → ∃ n, P n ∧ ∀ m, P m → n ≤ m
  | 0, n, hk, h => ⟨n, h, fun m _ => by omega⟩
  | k + 1, n, hk, h => by
    by_cases hm : ∃ m, P m ∧ m < n
    · obtain ⟨m, h1, h2⟩ := hm
      exact least_is k m (by omega) h1
    · exact ⟨n, h, fun m hP => Nat.le_of_not_lt (fun hlt => hm ⟨m, hP, hlt⟩)⟩
theorem leastOf_spec {P : Nat → Prop} {n : Nat} (h : P n) : P (leastOf P) ∧ ∀ m, P m → leastOf P ≤ m := by
  have he := least_is n n (Nat.le_refl _) h
  unfold leastOf
  rw [dif_pos he]
  exact Classical.choose_spec he

section
variable {R : RP} {V : VP} {C : CP}
/-- A new reader beside a code. -/
theorem jc_new (HF : FlowP R V) (HP : CodeP R V C) {w0 w : World} {c : Addr} {l : List Int} {S : Nat → Prop} (hC : C w c l S) (hS : ∀ i, S i → w0.heap.size ≤ i) (hF : Fr (fun _ => False) w0 w) (A : Option Addr) (cap : Nat) (b : List UInt8) (hr : Rd w w.heap.size A b) (hA : A = none → cap = 0) (hc : b.length ≤ cap) (hb : b.length ≤ 140737488351232) : Calls Try.prog 22 #[.slice A b.length cap] w fun e w' => ∃ a, e = .returned (.pointer (some a)) ∧ JC R C w0 c l a b (fun _ => False) w' 0 ∧ Fr (fun _ => False) w w' := by
  refine (HF.new w A cap b hr hA hc hb).mono fun e w' g => ?_
  obtain ⟨a, T, he, g1, g2, g3⟩ := g
  refine ⟨a, he, ⟨⟨S, T, HP.c_keep hC g3 (fun _ _ e => e), g1, fun i hi => ⟨hS i hi, fun ht => ?_, fun e => e⟩, fun i hi => ⟨Nat.le_trans hF.size (g2 i hi), fun e => e⟩⟩, hF.trans g3 (fun _ _ e => e), fun i e => e.elim⟩, g3⟩
  have := (HP.c_in hC).1 i hi
  have := g2 i ht
  omega

set_option maxHeartbeats 8000000 in
theorem full_walk (HF : FlowP R V) (HP : CodeP R V C) (w : World) (A : Option Addr) (cap : Nat) (l : List Int) (A2 : Option Addr) (cap2 : Nat) (b : List UInt8) (hr : RdI w w.heap.size A l) (hA : A = none → cap = 0) (hc : l.length ≤ cap) (hl : l.length ≤ 140737488351232) (hr2 : Rd w w.heap.size A2 b) (hA2 : A2 = none → cap2 = 0) (hc2 : b.length ≤ cap2) (hl2 : b.length ≤ 140737488351232) :
    Calls Try.prog 7 #[.slice A l.length cap, .slice A2 b.length cap2] w fun e w' => e = .returned (.bool true) ∧ Fr (fun _ => False) w w' := by
  have HPP := Lib.hid (⟨HF, HP⟩ : _ ∧ _)
  have HI := Lib.hid (⟨hr, hA, hc, hl⟩ : _ ∧ _ ∧ _ ∧ _)
  have HB := Lib.hid (⟨hr2, hA2, hc2, hl2⟩ : _ ∧ _ ∧ _ ∧ _)
  have HW := Lib.hid (cworks HF HP w)
  obtain ⟨n, hn⟩ : ∃ n, n = l.length := ⟨_, rfl⟩
  have HN := Lib.hid hn
  obtain ⟨nb, hnb⟩ : ∃ n, n = b.length := ⟨_, rfl⟩
  have HNB := Lib.hid hnb
  rw [← hn, ← hnb]
  clear HF HP hr hA hc hl hn hr2 hA2 hc2 hl2 hnb
  go_enter Try.func7, Try.ntmps7
  go_wp2_with fail
  refine HW.out.mono ?_
  rintro e w1 ⟨rfl, hF1⟩
  have HF1 := Lib.hid hF1
  clear hF1 HW
  have hr1 := rdI_more (HI.out.1.still HF1.out (Nat.le_refl _)) HF1.out.size
  cases hok : okB l with
  | false =>
    have HNW := Lib.hid (HPP.out.2.new_no w1 A cap l hr1 HI.out.2.1 HI.out.2.2.1 HI.out.2.2.2 hok)
    rw [← HN.out] at HNW
    clear hok hr1
    go_wp2_with fail
    refine HNW.out.mono ?_
    rintro e w2 ⟨rfl, hF2⟩
    have HF2 := Lib.hid (HF1.out.trans hF2 (fun _ _ e => e))
    clear hF2 HNW
    go_wp2_with fail
    go_ret
    exact ⟨rfl, HF2.out⟩
  | true =>
    have HNW := Lib.hid (HPP.out.2.new_ok w1 A cap l hr1 HI.out.2.1 HI.out.2.2.1 HI.out.2.2.2 hok)
    rw [← HN.out] at HNW
    have HOK := Lib.hid hok
    clear hok hr1
    go_wp2_with fail
    refine HNW.out.mono ?_
    rintro e w2 ⟨c, S, rfl, hC, hS, hF2⟩
    have HC := Lib.hid (⟨hC, fun i hi => Nat.le_trans HF1.out.size (hS i hi), HF1.out.trans hF2 (fun _ _ e => e)⟩ : C w2 c l S ∧ (∀ i, S i → w.heap.size ≤ i) ∧ Fr (fun _ => False) w w2)
    have HRM := Lib.hid (HPP.out.2.room w2 A cap l (rdI_more (HI.out.1.still HC.out.2.2 (Nat.le_refl _)) HC.out.2.2.size) HI.out.2.1 HI.out.2.2.1 HI.out.2.2.2)
    rw [← HN.out] at HRM
    clear hC hS hF2 HNW
    by_cases h0 : roomI l = 0
    · rw [h0] at HRM
      have H0 := Lib.hid h0
      clear h0
      go_wp2_with fail
      refine HRM.out.mono ?_
      rintro e w3 ⟨rfl, hF3⟩
      have HC3 := Lib.hid (⟨HPP.out.2.c_keep HC.out.1 hF3 (fun _ _ e => e), HC.out.2.2.trans hF3 (fun _ _ e => e)⟩ : C w3 c l S ∧ Fr (fun _ => False) w w3)
      have HJN := Lib.hid (jc_new HPP.out.1 HPP.out.2 HC3.out.1 HC.out.2.1 HC3.out.2 A2 cap2 b ((HB.out.1.still HC3.out.2 (Nat.le_refl _)).more HC3.out.2.size) HB.out.2.1 HB.out.2.2.1 HB.out.2.2.2)
      rw [← HNB.out] at HJN
      clear hF3 HRM
      go_wp2_with fail
      refine HJN.out.mono ?_
      rintro e w4 ⟨a, rfl, hJ, hF4⟩
      have HJ := Lib.hid hJ
      clear hJ hF4 HJN
      go_wp2_with fail
      go_loopw [] (fun wr => Hid (∃ p, JC R C w c l a b (fun _ => False) wr p)) (fun wr => leastOf (fun k => ∃ p, JC R C w c l a b (fun _ => False) wr p ∧ k = 8 * nb - p))
      case atStart => exact (show ∃ p, JC R C w c l a b (fun _ => False) w4 p from ⟨0, HJ.out⟩)
      case round =>
        obtain ⟨p0, hp0⟩ := hrel.out
        have hls := leastOf_spec (P := fun k => ∃ p, JC R C w c l a b (fun _ => False) wr p ∧ k = 8 * nb - p) ⟨p0, hp0, rfl⟩
        obtain ⟨⟨p, hp, hk⟩, -⟩ := hls
        have hple := hp.le HPP.out.1
        rw [← HNB.out] at hple
        have HK := Lib.hid (⟨hp, hk, hple⟩ : _ ∧ _ ∧ _)
        have HL := Lib.hid (hp.left HPP.out.1 HPP.out.2)
        rw [← HNB.out] at HL
        clear hp0 hp hk hrel HJ
        obtain ⟨d, hd⟩ : ∃ d, d = 8 * nb - p := ⟨_, rfl⟩
        have HD := Lib.hid hd
        rw [← hd] at HL
        clear hd hple
        by_cases h15 : 15 ≤ d
        · go_wp2_with fail
          refine HL.out.mono ?_
          rintro e w5 ⟨rfl, hC5, hJ5⟩
          have HRD := Lib.hid (hJ5.read HPP.out.1 HPP.out.2)
          have hfull := read_full (B := bitsOf b) (p := p) HOK.out H0.out (bitsOf_bits b) (by rw [bitsOf_length, ← HNB.out]; have := HD.out; omega)
          have hon := rdC_on l (bitsOf b) p
          rw [bitsOf_length, ← HNB.out] at hon
          have hon2 := hon.2.1 hfull
          have hon3 := hon.2.2.1 (by have := HD.out; omega)
          rw [hfull] at HRD
          obtain ⟨s, hs⟩ : ∃ s, s = (rdC l (bitsOf b) p).1 := ⟨_, rfl⟩
          obtain ⟨p2, hp2⟩ : ∃ s, s = (rdC l (bitsOf b) p).2.2 := ⟨_, rfl⟩
          rw [← hs, ← hp2] at HRD
          rw [← hp2] at hon2 hon3
          have HON := Lib.hid (⟨hon2, hon3⟩ : _ ∧ _)
          clear hJ5 hC5 hfull hon hon2 hon3 hs hp2 HL
          go_wp2_with fail
          refine HRD.out.mono ?_
          rintro e w6 ⟨rfl, _, hJ6, _⟩
          have HJ6 := Lib.hid hJ6
          clear hJ6 HRD
          go_wp2_with fail
          go_roundw
          case rel => exact (show ∃ p, JC R C w c l a b (fun _ => False) w6 p from ⟨p2, HJ6.out⟩)
          case measure =>
            have h1 := (leastOf_spec (P := fun k => ∃ p, JC R C w c l a b (fun _ => False) w6 p ∧ k = 8 * nb - p) ⟨p2, HJ6.out, rfl⟩).2 (8 * nb - p2) ⟨p2, HJ6.out, rfl⟩
            have h2 := HK.out.2.1
            have h3 := HON.out
            have h4 := HD.out
            show leastOf _ < leastOf _
            rw [h2]
            omega
        · go_wp2_with fail
          refine HL.out.mono ?_
          rintro e w5 ⟨rfl, _, hJ5⟩
          have HF5 := Lib.hid hJ5.fr
          clear hJ5 HL
          go_wp2_with fail
          go_ret
          exact ⟨rfl, HF5.out⟩
    · have hne : (roomI l != 0) = true := by rw [bne_iff_ne]; exact h0
      obtain ⟨ρ, hρ⟩ : ∃ ρ, ρ = roomI l := ⟨_, rfl⟩
      rw [← hρ] at hne HRM
      clear hρ h0
      go_wp2_with fail
      refine HRM.out.mono ?_
      rintro e w3 ⟨rfl, hF3⟩
      have HF3 := Lib.hid (HC.out.2.2.trans hF3 (fun _ _ e => e))
      clear hF3 HRM
      go_wp2_with fail
      go_ret
      exact ⟨rfl, HF3.out⟩
end
end Go.Proofs.Ytnibbopdjeagoaa.cd
