/-
  The document's Print, walked.
-/
import Derived.Test.YtdocanihocbhhaaDoorHeT
namespace Go.Proofs.YtdocanihocbhhaaDoor.he
set_option maxRecDepth 100000
open Go.RowKit Go.Maps
set_option maxRecDepth 100000

theorem print_bad {h : Hd} (hm : ¬ mayH h) : printV h = ([], 2) := by
  unfold printV
  cases partedV h.name with
  | none => rfl
  | some q => exact if_neg hm
theorem print_good {h : Hd} {q : Bts × Bts} (hq : partedV h.name = some q) (hm : mayH h) : printV h = (printB h q, 0) := by
  unfold printV
  rw [hq]
  exact if_pos hm
theorem own_base {w : World} {base base' n : Nat} {v : Value} {xs : List Value} (h : w.ownsRow base 5 1 v n xs) (hb : base' ≤ base) : w.ownsRow base' 5 1 v n xs := by
  refine ⟨h.1, ?_⟩
  rcases h.2 with e | ⟨g, cap, cur, e, hg, r⟩
  · exact Or.inl e
  · exact Or.inr ⟨g, cap, cur, e, by omega, r⟩
theorem print_end {w0 w : World} {A : Option Addr} {h : Hd} {q : Bts × Bts} (hq2 : q.2.length ≤ 100) (hq1 : q.1.length ≤ 155) (hl : h.link.length ≤ 100) (t : Nat) (ht : t = sumV (blankV h q)) (s : ByteArray) (hs : s = tx (sum8 t)) (ho : Own w w0.heap.size (.slice A 512 512) (blankV h q)) (hF : Fr (fun _ => False) w0 w) :
    Calls Tryd.prog 37 #[.slice A 512 512, .int .i64 148, .string s] w fun e w' => e = .returned (.tuple #[]) ∧ Own w' w0.heap.size (.slice A 512 512) (printB h q) ∧ Fr (fun _ => False) w0 w' := by
  have hlen : (blankV h q).length = 512 := hdr_len hq2 hl hq1 (by simp)
  have h8 : (sum8 t).length = 8 := sum8_len t
  have hss : s.size = 8 := by rw [hs]; show (sum8 t).toArray.size = 8; rw [List.size_toArray, h8]
  have hsl : s.data.toList = sum8 t := by rw [hs]
  have h1 := rput w0 w A 512 512 148 (blankV h q) s (by rw [hlen]; exact ho) hlen.symm hF (by omega) (by decide)
  have h2 : layL (blankV h q) 148 s.data.toList s.size = printB h q := by
    rw [hsl, hss]
    have h3 := lay_mid (P := preH q.2 h.mode.toNat h.size.toNat) (s := List.replicate 8 0) (t := sum8 t) (Q := postH h.kind h.link q.1) (by rw [h8]; rfl)
    rw [preH_len hq2, h8] at h3
    show layL (hdrV _ _ _ _ _ _ _) 148 _ 8 = _
    unfold hdrV
    rw [h3]
    unfold printB hdrV
    rw [ht]
  rw [h2] at h1
  exact h1
set_option maxHeartbeats 16000000 in
theorem rprint_no (w : World) (h : Hd) (hw : WfH h) (hbad : ¬ mayH h) : Calls Tryd.prog 21 #[hdV h] w (PrA w (printV h)) := by
  obtain ⟨nm, hnm⟩ : ∃ s, s = tx h.name := ⟨_, rfl⟩
  obtain ⟨lk, hlk⟩ : ∃ s, s = tx h.link := ⟨_, rfl⟩
  obtain ⟨md, hmd⟩ : ∃ s, s = h.mode := ⟨_, rfl⟩
  obtain ⟨sz, hsz⟩ : ∃ s, s = h.size := ⟨_, rfl⟩
  obtain ⟨kd, hkd⟩ : ∃ s, s = h.kind := ⟨_, rfl⟩
  have e1 : nm.data.toList = h.name := by rw [hnm]
  have e2 : lk.data.toList = h.link := by rw [hlk]
  have e3 : nm.size = h.name.length := by rw [← e1, Array.length_toList]; rfl
  have e4 : lk.size = h.link.length := by rw [← e2, Array.length_toList]; rfl
  have hbm := hw.mode
  have hbs := hw.size
  rw [← hmd] at hbm
  rw [← hsz] at hbs
  have HPT := Lib.hid (fun (wx : World) => rparted wx nm (by have := hw.name; omega))
  have HZ1 := Lib.hid (fun (wx : World) => rzero wx nm (by have := hw.name; omega))
  have HZ2 := Lib.hid (fun (wx : World) => rzero wx lk (by have := hw.link; omega))
  rw [e1] at HPT HZ1
  rw [e2] at HZ2
  have hv0 : hdV h = .agg #[.string nm, .string lk, .int .i64 md, .int .i64 sz, .int .u8 (kd.toNat : Int)] := by rw [hnm, hlk, hmd, hsz, hkd]
  rw [hv0]
  obtain ⟨V, hV⟩ : ∃ V, V = printV h := ⟨_, rfl⟩
  rw [← hV]
  have HF0 := Lib.hid (show Fr (fun _ => False) w (w.alloc (rec5 (.string nm) (.string lk) (.int .i64 md) (.int .i64 sz) (.int .u8 (kd.toNat : Int)))) from (Fr.refl _ w).alloc _)
  have HBAD := Lib.hid (show ¬ mayH h → V = ([], 2) from fun hm => hV.trans (print_bad hm))
  have hmay : mayH h ↔ ((partedV h.name).isSome = true ∧ lk.size ≤ 100 ∧ (0 : UInt8) ∉ h.name ∧ (0 : UInt8) ∉ h.link ∧ 0 ≤ md ∧ md ≤ 4095 ∧ 0 ≤ sz ∧ sz ≤ 262144 ∧ kd ≠ 0) := by
    unfold mayH
    rw [hmd, hsz, hkd, e4]
  have HNM := Lib.hid hbad
  clear hnm hlk hmd hsz hkd e1 e2 e3 e4 hv0 hV hw hbad
  have hcases : ((partedV h.name).isSome = false) ∨ ((partedV h.name).isSome = true ∧ 100 < lk.size) ∨ ((partedV h.name).isSome = true ∧ lk.size ≤ 100 ∧ (0 : UInt8) ∈ h.name) ∨ ((partedV h.name).isSome = true ∧ lk.size ≤ 100 ∧ (0 : UInt8) ∉ h.name ∧ (0 : UInt8) ∈ h.link) ∨ ((partedV h.name).isSome = true ∧ lk.size ≤ 100 ∧ (0 : UInt8) ∉ h.name ∧ (0 : UInt8) ∉ h.link ∧ ¬ (0 ≤ md ∧ md ≤ 4095 ∧ 0 ≤ sz ∧ sz ≤ 262144 ∧ kd ≠ 0)) ∨ ((partedV h.name).isSome = true ∧ lk.size ≤ 100 ∧ (0 : UInt8) ∉ h.name ∧ (0 : UInt8) ∉ h.link ∧ 0 ≤ md ∧ md ≤ 4095 ∧ 0 ≤ sz ∧ sz ≤ 262144 ∧ kd ≠ 0) := by
    by_cases a1 : (partedV h.name).isSome = true
    · by_cases a2 : lk.size ≤ 100
      · by_cases a3 : (0 : UInt8) ∈ h.name
        · exact Or.inr (Or.inr (Or.inl ⟨a1, a2, a3⟩))
        · by_cases a4 : (0 : UInt8) ∈ h.link
          · exact Or.inr (Or.inr (Or.inr (Or.inl ⟨a1, a2, a3, a4⟩)))
          · by_cases a5 : 0 ≤ md ∧ md ≤ 4095 ∧ 0 ≤ sz ∧ sz ≤ 262144 ∧ kd ≠ 0
            · exact Or.inr (Or.inr (Or.inr (Or.inr (Or.inr ⟨a1, a2, a3, a4, a5⟩))))
            · exact Or.inr (Or.inr (Or.inr (Or.inr (Or.inl ⟨a1, a2, a3, a4, a5⟩))))
      · exact Or.inr (Or.inl ⟨a1, by omega⟩)
    · exact Or.inl (by simpa using a1)
  have hpv : (partV h.name).2.2 = (partedV h.name).isSome := by
    unfold partV
    cases partedV h.name <;> rfl
  obtain ⟨p, hp⟩ : ∃ v, v = tx (partV h.name).1 := ⟨_, rfl⟩
  obtain ⟨q, hq⟩ : ∃ v, v = tx (partV h.name).2.1 := ⟨_, rfl⟩
  rw [← hp, ← hq, hpv] at HPT
  clear hp hq hpv
  obtain ⟨kn, hkn⟩ : ∃ k, k = kd.toNat := ⟨_, rfl⟩
  have hk0 : kd = 0 ↔ kn = 0 := by rw [hkn]; exact ⟨fun e => by rw [e]; rfl, fun e => UInt8.toNat_inj.1 (by rw [e]; rfl)⟩
  rw [← hkn] at HF0 ⊢
  clear hkn
  rcases hcases with a1 | ⟨a1, a2⟩ | ⟨a1, a2, a3⟩ | ⟨a1, a2, a3, a4⟩ | ⟨a1, a2, a3, a4, a5⟩ | ⟨a1, a2, a3, a4, a5, a6, a7, a8, a9⟩
  · have HE := Lib.hid (HBAD.out (fun hm => by rw [hmay] at hm; rw [a1] at hm; cases hm.1))
    rw [a1] at HPT
    clear hmay HBAD a1 hk0 hbm hbs
    go_enter Tryd.func21, Tryd.ntmps21
    go_wp2_with fail
    refine (HPT.out _).mono ?_
    rintro e w1 ⟨rfl, hC1⟩
    obtain ⟨c0, c1, c2, c3, c4⟩ := rec_cells hC1.fr
    have HF1 := Lib.hid (HF0.out.trans hC1.fr (fun _ _ e => e))
    have HR1 := Lib.hid hC1.fr
    clear hC1 HPT
    go_wp2_with fail
    go_ret2
    rw [HE.out]
    exact PrA.no HF1.out
  · have HE := Lib.hid (HBAD.out (fun hm => by rw [hmay] at hm; omega))
    rw [a1] at HPT
    have hl : (100 : Int) < (lk.size : Int) := by omega
    clear hmay HBAD a1 a2 hk0 hbm hbs
    go_enter Tryd.func21, Tryd.ntmps21
    go_wp2_with fail
    refine (HPT.out _).mono ?_
    rintro e w1 ⟨rfl, hC1⟩
    obtain ⟨c0, c1, c2, c3, c4⟩ := rec_cells hC1.fr
    have HF1 := Lib.hid (HF0.out.trans hC1.fr (fun _ _ e => e))
    have HR1 := Lib.hid hC1.fr
    clear hC1 HPT
    go_wp2_with fail
    go_ret2
    rw [HE.out]
    exact PrA.no HF1.out
  · have HE := Lib.hid (HBAD.out (fun hm => by rw [hmay] at hm; exact hm.2.2.1 a3))
    rw [a1] at HPT
    rw [decide_eq_true a3] at HZ1
    have hl : ¬ (100 : Int) < (lk.size : Int) := by omega
    clear hmay HBAD a1 a2 a3 hk0 hbm hbs
    go_enter Tryd.func21, Tryd.ntmps21
    go_wp2_with fail
    refine (HPT.out _).mono ?_
    rintro e w1 ⟨rfl, hC1⟩
    obtain ⟨c0, c1, c2, c3, c4⟩ := rec_cells hC1.fr
    have HF1 := Lib.hid (HF0.out.trans hC1.fr (fun _ _ e => e))
    have HR1 := Lib.hid hC1.fr
    clear hC1 HPT
    go_wp2_with fail
    refine (HZ1.out _).mono ?_
    rintro e w2 ⟨rfl, hF2⟩
    clear c0 c1 c2 c3 c4
    obtain ⟨c0, c1, c2, c3, c4⟩ := rec_cells (HR1.out.trans hF2 (fun _ _ e => e))
    have HF2 := Lib.hid (HF1.out.trans hF2 (fun _ _ e => e))
    have HR2 := Lib.hid (HR1.out.trans hF2 (fun _ _ e => e))
    clear hF2 HZ1 HR1 HF1
    go_wp2_with fail
    go_ret2
    rw [HE.out]
    exact PrA.no HF2.out
  · have HE := Lib.hid (HBAD.out (fun hm => by rw [hmay] at hm; exact hm.2.2.2.1 a4))
    rw [a1] at HPT
    rw [decide_eq_false a3] at HZ1
    rw [decide_eq_true a4] at HZ2
    have hl : ¬ (100 : Int) < (lk.size : Int) := by omega
    clear hmay HBAD a1 a2 a3 a4 hk0 hbm hbs
    go_enter Tryd.func21, Tryd.ntmps21
    go_wp2_with fail
    refine (HPT.out _).mono ?_
    rintro e w1 ⟨rfl, hC1⟩
    obtain ⟨c0, c1, c2, c3, c4⟩ := rec_cells hC1.fr
    have HF1 := Lib.hid (HF0.out.trans hC1.fr (fun _ _ e => e))
    have HR1 := Lib.hid hC1.fr
    clear hC1 HPT
    go_wp2_with fail
    refine (HZ1.out _).mono ?_
    rintro e w2 ⟨rfl, hF2⟩
    clear c0 c1 c2 c3 c4
    obtain ⟨c0, c1, c2, c3, c4⟩ := rec_cells (HR1.out.trans hF2 (fun _ _ e => e))
    have HF2 := Lib.hid (HF1.out.trans hF2 (fun _ _ e => e))
    have HR2 := Lib.hid (HR1.out.trans hF2 (fun _ _ e => e))
    clear hF2 HZ1 HR1 HF1
    go_wp2_with fail
    refine (HZ2.out _).mono ?_
    rintro e w3 ⟨rfl, hF3⟩
    clear c0 c1 c2 c3 c4
    obtain ⟨c0, c1, c2, c3, c4⟩ := rec_cells (HR2.out.trans hF3 (fun _ _ e => e))
    have HF3 := Lib.hid (HF2.out.trans hF3 (fun _ _ e => e))
    have HR3 := Lib.hid (HR2.out.trans hF3 (fun _ _ e => e))
    clear hF3 HZ2 HR2 HF2
    go_wp2_with fail
    go_ret2
    rw [HE.out]
    exact PrA.no HF3.out
  · have HE := Lib.hid (HBAD.out (fun hm => by rw [hmay] at hm; exact a5 hm.2.2.2.2))
    rw [a1] at HPT
    rw [decide_eq_false a3] at HZ1
    rw [decide_eq_false a4] at HZ2
    have hl : ¬ (100 : Int) < (lk.size : Int) := by omega
    have hwhy : md < 0 ∨ (0 ≤ md ∧ 4095 < md) ∨ (0 ≤ md ∧ md ≤ 4095 ∧ sz < 0) ∨ (0 ≤ md ∧ md ≤ 4095 ∧ 0 ≤ sz ∧ 262144 < sz) ∨ (0 ≤ md ∧ md ≤ 4095 ∧ 0 ≤ sz ∧ sz ≤ 262144 ∧ kn = 0) := by
      rw [not_and, not_and, not_and, not_and, Decidable.not_not, hk0] at a5
      omega
    clear hmay HBAD a1 a2 a3 a4 a5 hk0 hbm hbs
    go_enter Tryd.func21, Tryd.ntmps21
    go_wp2_with fail
    refine (HPT.out _).mono ?_
    rintro e w1 ⟨rfl, hC1⟩
    obtain ⟨c0, c1, c2, c3, c4⟩ := rec_cells hC1.fr
    have HF1 := Lib.hid (HF0.out.trans hC1.fr (fun _ _ e => e))
    have HR1 := Lib.hid hC1.fr
    clear hC1 HPT
    go_wp2_with fail
    refine (HZ1.out _).mono ?_
    rintro e w2 ⟨rfl, hF2⟩
    clear c0 c1 c2 c3 c4
    obtain ⟨c0, c1, c2, c3, c4⟩ := rec_cells (HR1.out.trans hF2 (fun _ _ e => e))
    have HF2 := Lib.hid (HF1.out.trans hF2 (fun _ _ e => e))
    have HR2 := Lib.hid (HR1.out.trans hF2 (fun _ _ e => e))
    clear hF2 HZ1 HR1 HF1
    go_wp2_with fail
    refine (HZ2.out _).mono ?_
    rintro e w3 ⟨rfl, hF3⟩
    clear c0 c1 c2 c3 c4
    obtain ⟨c0, c1, c2, c3, c4⟩ := rec_cells (HR2.out.trans hF3 (fun _ _ e => e))
    have HF3 := Lib.hid (HF2.out.trans hF3 (fun _ _ e => e))
    have HR3 := Lib.hid (HR2.out.trans hF3 (fun _ _ e => e))
    clear hF3 HZ2 HR2 HF2
    rcases hwhy with d1 | ⟨d1, d2⟩ | ⟨d1, d2, d3⟩ | ⟨d1, d2, d3, d4⟩ | ⟨d1, d2, d3, d4, d5⟩
    case' inr.inr.inr.inr =>
      have d4' : decide ((262144 : Int) < sz) = false := decide_eq_false (by omega)
      have d5' : ((kn : Int) == 0) = true := by rw [d5]; rfl
      clear d4 d5
    case' inr.inr.inr.inl =>
      have d4' : decide ((262144 : Int) < sz) = true := decide_eq_true d4
      clear d4
    all_goals
      go_wp2_with fail
      go_ret2
      rw [HE.out]
      exact PrA.no HF3.out
  · exact absurd (hmay.2 ⟨a1, a2, a3, a4, a5, a6, a7, a8, a9⟩) HNM.out
end Go.Proofs.YtdocanihocbhhaaDoor.he
