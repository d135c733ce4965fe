/-
  DirsBack over what is asked of the program's own functions.
-/
import Derived.Test.YtppkmfhlmmlckaaNmQ
namespace Go.Proofs.Ytppkmfhlmmlckaa.nm
set_option maxRecDepth 100000
open Go.RowKit Go.Maps
set_option maxRecDepth 100000

theorem it_size {x : Nm} (h : itB x = true) : x.1.size ≤ 32 ∧ 0 ≤ x.2 ∧ x.2 ≤ 65535 := by
  have hn1 : nmB x.1 = true := (Bool.and_eq_true_iff.1 h).1
  have hi1 : inB x.2 = true := (Bool.and_eq_true_iff.1 h).2
  refine ⟨?_, ?_⟩
  · unfold nmB at hn1
    simp at hn1
    omega
  · unfold inB at hi1
    simpa using hi1
theorem right_wf {l : List Nm} (h : RightN l) : WfN l := fun x hx => by
  have := it_size (((right_iff l).1 h).1 x hx)
  unfold maxLen
  omega
theorem prL_len : ∀ (l : List Nm), (∀ x ∈ l, itB x = true) → (prL l).length ≤ 35 * l.length
  | [], _ => by simp [prL]
  | x :: r, h => by
    have ih := prL_len r (fun y hy => h y (by simp [hy]))
    have hx := (it_size (h x (by simp))).1
    have h1 := toL_length x.1
    have h2 : (putL [0, 0] 0 x.2.toNat 2).length = 2 := by rw [putL_length]; rfl
    rw [prL_cons, List.length_append, List.length_cons]
    unfold enB
    rw [List.length_cons, List.length_append, h2]
    omega
theorem right_len {l : List Nm} (h : RightN l) : (prL l).length ≤ 8960 := by
  have := prL_len l ((right_iff l).1 h).1
  have := h.2
  omega

set_option maxHeartbeats 4000000 in
theorem back_walk (HD : Dirs) (w : World) (A : Option Addr) (cap : Nat) (l : List Nm) (A2 : Option Addr) (cap2 : Nat) (b : List UInt8) (hl : In w A cap l) (hr2 : Rd w w.heap.size A2 b) (hn2 : A2 = none → cap2 = 0) (hc2 : b.length ≤ cap2) (hb2 : b.length ≤ 140737488351232) :
    Calls Try.prog 5 #[.slice A l.length cap, .slice A2 b.length cap2] w fun e w' => e = .returned (.bool true) ∧ Fr (fun _ => False) w w' := by
  obtain ⟨n, hn'⟩ : ∃ n, n = l.length := ⟨_, rfl⟩
  obtain ⟨nb, hnb⟩ : ∃ nb, nb = b.length := ⟨_, rfl⟩
  have HL := Lib.hid (⟨hl, hn', hr2, hn2, hc2, hb2, hnb⟩ : _ ∧ _ ∧ _ ∧ _ ∧ _ ∧ _ ∧ _)
  have HDD := Lib.hid HD
  rw [← hn', ← hnb]
  clear hl hn' hr2 hn2 hc2 hb2 hnb HD
  go_enter Try.func5, Try.ntmps5
  go_wp2_with fail
  refine (HDD.out.works w).mono ?_
  rintro e w1 ⟨rfl, hF1⟩
  have HF1 := Lib.hid hF1
  clear hF1
  have HPR := Lib.hid (HDD.out.print w1 A cap l (HL.out.1.fr HF1.out))
  rw [← HL.out.2.1] at HPR
  go_wp2_with fail
  refine HPR.out.mono ?_
  rintro e w2 (⟨hrt, Ap, cp, rfl, hop, hnp, hcp, hF2⟩ | ⟨_, Ap, cp, rfl, hF2⟩)
  case' inl =>
    have HRT := Lib.hid hrt
    have HPA := Lib.hid (HDD.out.parse w2 Ap cp (prL l) (Own.rd hop) hnp hcp (by have := right_len hrt; omega))
    rw [back_l hrt] at HPA
    have HF2 := Lib.hid (HF1.out.trans hF2 (fun _ _ e => e))
    obtain ⟨q, hq⟩ : ∃ q, q = (prL l).length := ⟨_, rfl⟩
    rw [← hq] at HPA ⊢
    clear hrt hop hnp hcp hF2 HPR hq
    go_wp2_with fail
    refine HPA.out.mono ?_
    rintro e w3 (⟨m, hm, _, Am, cm, rfl, hom, _, _, hF3⟩ | ⟨hno, _⟩)
    case' inr => exact absurd HRT.out (hno l rfl)
    obtain rfl : l = m := Option.some.inj hm
    have HF3 := Lib.hid (HF2.out.trans hF3 (fun _ _ e => e))
    have HSN := Lib.hid (sameN_any w3 Am A w3.heap.size w3.heap.size cm cap l l (OwnN.rd hom HL.out.1.rd.wf) (HL.out.1.fr HF3.out).rd (Nat.le_refl _) (Nat.le_refl _) (by have := HL.out.1.len; omega))
    rw [decide_eq_true rfl, ← HL.out.2.1] at HSN
    rw [← HL.out.2.1]
    clear hm hom hF3 HPA
    go_wp2_with fail
    refine HSN.out.mono ?_
    rintro e w4 ⟨rfl, hC⟩
    have HF4 := Lib.hid (HF3.out.trans hC.fr (fun _ _ e => e))
    clear hC HSN HF2 HF3 HRT
    go_wp2_with fail
  case' inr =>
    obtain ⟨w4, hw4⟩ : ∃ w4, w4 = w2 := ⟨_, rfl⟩
    subst hw4
    have HF4 := Lib.hid (HF1.out.trans hF2 (fun _ _ e => e))
    clear hF2 HPR
    go_wp2_with fail
  all_goals
    have HRD := Lib.hid (show Rd w4 w4.heap.size A2 b from fun hne => by
      obtain ⟨bk, of_, e, hb, hc⟩ := HL.out.2.2.1 hne
      exact ⟨bk, of_, e, Nat.lt_of_lt_of_le hb HF4.out.size, fun j x hj => (World.cell?_of_block (w := w) (w' := w4) (a := ⟨bk, of_ + j, none⟩) (HF4.out.block bk hb id)).trans (hc j x hj)⟩)
    have HPB := Lib.hid (HDD.out.parse w4 A2 cap2 b HRD.out HL.out.2.2.2.1 HL.out.2.2.2.2.1 HL.out.2.2.2.2.2.1)
    rw [← HL.out.2.2.2.2.2.2] at HPB
    refine HPB.out.mono ?_
    rintro e w5 (⟨m, hm, hrm, Am, cm, rfl, hom, hnm, hcm, hF5⟩ | ⟨_, Am, cm, rfl, hF5⟩)
    · have hml := hrm.2
      have HIM := Lib.hid (⟨OwnN.rd hom (right_wf hrm), hnm, hcm, by omega⟩ : In w5 Am cm m)
      have HRM := Lib.hid hrm
      have HBB := Lib.hid (back_b hm)
      have HF5 := Lib.hid (HF4.out.trans hF5 (fun _ _ e => e))
      have HPM := Lib.hid (HDD.out.print w5 Am cm m HIM.out)
      obtain ⟨q, hq⟩ : ∃ q, q = m.length := ⟨_, rfl⟩
      rw [← hq] at HPM ⊢
      clear hml hrm hom hnm hcm hF5 hm hq HPB
      go_wp2_with fail
      refine HPM.out.mono ?_
      rintro e w6 (⟨_, Ac, cc, rfl, hoc, hnc, hcc, hF6⟩ | ⟨hno, _⟩)
      · have HF6 := Lib.hid (HF5.out.trans hF6 (fun _ _ e => e))
        rw [HBB.out] at hoc ⊢
        have HSB := Lib.hid (same_any w6 Ac A2 w6.heap.size w6.heap.size cc cap2 b b (Own.rd hoc) (fun hne => by
          obtain ⟨bk, of_, e, hb, hc⟩ := HL.out.2.2.1 hne
          exact ⟨bk, of_, e, Nat.lt_of_lt_of_le hb HF6.out.size, fun j x hj => (World.cell?_of_block (w := w) (w' := w6) (a := ⟨bk, of_ + j, none⟩) (HF6.out.block bk hb id)).trans (hc j x hj)⟩) HL.out.2.2.2.2.2.1)
        rw [decide_eq_true rfl, ← HL.out.2.2.2.2.2.2] at HSB
        rw [← HL.out.2.2.2.2.2.2]
        clear hoc hnc hcc hF6 HPM
        go_wp2_with fail
        refine HSB.out.mono ?_
        rintro e w7 ⟨rfl, hC⟩
        have HF7 := Lib.hid (HF6.out.trans hC.fr (fun _ _ e => e))
        clear hC
        go_wp2_with fail
        go_ret
        exact ⟨rfl, HF7.out⟩
      · exact absurd HRM.out hno
    · have HF5 := Lib.hid (HF4.out.trans hF5 (fun _ _ e => e))
      clear hF5 HPB
      go_wp2_with fail
      go_ret
      exact ⟨rfl, HF5.out⟩
end Go.Proofs.Ytppkmfhlmmlckaa.nm
