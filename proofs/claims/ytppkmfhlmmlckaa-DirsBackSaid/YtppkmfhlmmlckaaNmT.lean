/-
  DirsReads over what is asked of the program's own functions.
-/
import Derived.Test.YtppkmfhlmmlckaaNmS
namespace Go.Proofs.Ytppkmfhlmmlckaa.nm
set_option maxRecDepth 100000
open Go.RowKit Go.Maps
set_option maxRecDepth 100000

noncomputable def valP (p : Option (List Nm)) : List Nm × Int := match p with
  | some l => if RightN l then (l, 0) else ([], 70)
  | none => ([], 70)
noncomputable def valB (l : List Nm) : List UInt8 × Int := if RightN l then (prL l, 0) else ([], 70)
theorem valP_ok {p : Option (List Nm)} {l : List Nm} (h : p = some l) (hr : RightN l) : valP p = (l, 0) := by
  subst h
  exact if_pos hr
theorem valP_no {p : Option (List Nm)} (h : ∀ l, p = some l → ¬ RightN l) : valP p = ([], 70) := by
  cases p with
  | none => rfl
  | some l => exact if_neg (h l rfl)
theorem valP_len (p : Option (List Nm)) : (valP p).1.length ≤ 256 := by
  unfold valP
  cases p with
  | none => simp
  | some l =>
    by_cases h : RightN l
    · simp only [if_pos h]; exact h.2
    · simp [if_neg h]
theorem valB_len (l : List Nm) : (valB l).1.length ≤ 8960 := by
  unfold valB
  by_cases h : RightN l
  · rw [if_pos h]; exact right_len h
  · rw [if_neg h]; simp
/-- Names that are read, and an answer. -/
def GotN (w : World) (r : List Nm × Int) (e : Ending) (w' : World) : Prop := ∃ A cap, e = .returned (.tuple #[.slice A r.1.length cap, .int .i64 r.2]) ∧ RdN w' w'.heap.size A r.1 ∧ Fr (fun _ => False) w w'
def GotB (w : World) (r : List UInt8 × Int) (e : Ending) (w' : World) : Prop := ∃ A cap, e = .returned (.tuple #[.slice A r.1.length cap, .int .i64 r.2]) ∧ Rd w' w'.heap.size A r.1 ∧ Fr (fun _ => False) w w'
theorem gotV {w w' : World} {p : Option (List Nm)} {e : Ending} (h : AnsV w p e w') : GotN w (valP p) e w' := by
  rcases h with ⟨l, hp, hr, A, cap, rfl, ho, _, _, hF⟩ | ⟨hno, A, cap, rfl, hF⟩
  · rw [valP_ok hp hr]
    exact ⟨A, cap, rfl, OwnN.rd ho (right_wf hr), hF⟩
  · rw [valP_no hno]
    exact ⟨A, cap, rfl, RdN.nil _ _ _, hF⟩
theorem gotP {w w' : World} {p : Option (List Nm)} {e : Ending} (h : AnsP w p e w') : GotN w (valP p) e w' := by
  rcases h with ⟨l, hp, hr, A, cap, rfl, ho, hF⟩ | ⟨hno, rfl, hF⟩
  · rw [valP_ok hp hr]
    exact ⟨A, cap, rfl, OwnN.rd ho (right_wf hr), hF⟩
  · rw [valP_no hno]
    exact ⟨none, 0, rfl, RdN.nil _ _ _, hF⟩
theorem gotW {w w' : World} {l : List Nm} {e : Ending} (h : AnsW w l e w') : GotB w (valB l) e w' := by
  unfold valB
  rcases h with ⟨hr, A, cap, rfl, ho, _, _, hF⟩ | ⟨hno, A, cap, rfl, hF⟩
  · rw [if_pos hr]
    exact ⟨A, cap, rfl, Own.rd ho, hF⟩
  · rw [if_neg hno]
    exact ⟨A, cap, rfl, Rd.nil _ _ _, hF⟩
theorem gotB {w w' : World} {l : List Nm} {e : Ending} (h : AnsB w l e w') : GotB w (valB l) e w' := by
  unfold valB
  rcases h with ⟨hr, A, cap, rfl, ho, hF⟩ | ⟨hno, rfl, hF⟩
  · rw [if_pos hr]
    exact ⟨A, cap, rfl, Own.rd ho, hF⟩
  · rw [if_neg hno]
    exact ⟨none, 0, rfl, Rd.nil _ _ _, hF⟩
theorem own_cap {w : World} {base n cap size : Nat} {t : TypeId} {A : Option Addr} {xs : List Value} (h : w.ownsRow base t size (.slice A n cap) n xs) : (A = none → cap = 0) ∧ n ≤ cap := by
  rcases h.2 with ⟨e, h0⟩ | ⟨g, cap', cur, e, hg, hh, hn, _⟩
  · cases e
    exact ⟨fun _ => rfl, Nat.le_refl _⟩
  · cases e
    exact ⟨fun e => (by cases e), hn⟩
theorem rd_fr {w w' : World} {A : Option Addr} {b : List UInt8} (h : Rd w w.heap.size A b) (hF : Fr (fun _ => False) w w') : Rd w' w'.heap.size A b := fun hne => by
  obtain ⟨bk, of_, e, hb, hc⟩ := h hne
  exact ⟨bk, of_, e, Nat.lt_of_lt_of_le hb hF.size, fun j x hj => (World.cell?_of_block (w := w) (w' := w') (a := ⟨bk, of_ + j, none⟩) (hF.block bk hb id)).trans (hc j x hj)⟩
theorem rdN_fr {w w' : World} {A : Option Addr} {l : List Nm} (h : RdN w w.heap.size A l) (hF : Fr (fun _ => False) w w') : RdN w' w'.heap.size A l := (h.still hF (Nat.le_refl _)).more hF.size

set_option maxHeartbeats 4000000 in
theorem reads_walk (HD : Dirs) (w : World) (A2 : Option Addr) (cap2 : Nat) (b : List UInt8) (A : Option Addr) (cap : Nat) (l : List Nm) (s : ByteArray) (hl : In w A cap l) (hr2 : Rd w w.heap.size A2 b) (hn2 : A2 = none → cap2 = 0) (hc2 : b.length ≤ cap2) (hb2 : b.length ≤ 140737488351232) (hs : s.size ≤ maxLen) :
    Calls Try.prog 3 #[.slice A2 b.length cap2, .slice A l.length cap, .string s] w fun e w' => e = .returned (.bool true) ∧ Fr (fun _ => False) w w' := by
  obtain ⟨n, hn'⟩ : ∃ n, n = l.length := ⟨_, rfl⟩
  obtain ⟨nb, hnb⟩ : ∃ nb, nb = b.length := ⟨_, rfl⟩
  have HL := Lib.hid (⟨hl, hn', hr2, hn2, hc2, hb2, hnb, hs⟩ : _ ∧ _ ∧ _ ∧ _ ∧ _ ∧ _ ∧ _ ∧ _)
  have HDD := Lib.hid HD
  have HBY := Lib.hid (bytes_any w A2 cap2 b hr2 hn2 hb2)
  rw [← hnb] at HBY
  rw [← hn', ← hnb]
  clear hl hn' hr2 hn2 hc2 hb2 hnb hs HD
  go_enter Try.func3, Try.ntmps3
  go_wp2_with fail
  refine HBY.out.mono ?_
  rintro e w1 ⟨Ao, co, rfl, hoo, hF1⟩
  have HO1 := Lib.hid (⟨Own.rd hoo, own_cap hoo⟩ : Rd w1 w1.heap.size Ao b ∧ (Ao = none → co = 0) ∧ b.length ≤ co)
  have HF1 := Lib.hid hF1
  clear hoo hF1 HBY
  have HNM := Lib.hid (names_any w1 A cap l (HL.out.1.fr HF1.out).rd HL.out.1.none_ HL.out.1.len)
  rw [← HL.out.2.1] at HNM
  rw [← HL.out.2.2.2.2.2.2.1]
  go_wp2_with fail
  refine HNM.out.mono ?_
  rintro e w2 ⟨Am, cm, rfl, hom, hF2⟩
  have HM2 := Lib.hid (⟨OwnN.rd hom HL.out.1.rd.wf, (own_cap hom).1, (own_cap hom).2, HL.out.1.len⟩ : In w2 Am cm l)
  have HF2 := Lib.hid hF2
  have HPA := Lib.hid ((HDD.out.parse w2 Ao co b (rd_fr HO1.out.1 HF2.out) HO1.out.2.1 HO1.out.2.2 HL.out.2.2.2.2.2.1).mono fun _ _ h => gotV h)
  rw [← HL.out.2.2.2.2.2.2.1] at HPA
  rw [← HL.out.2.1]
  clear hom hF2 HNM
  obtain ⟨vp, hvp⟩ : ∃ vp, vp = valP (parP b) := ⟨_, rfl⟩
  obtain ⟨vb, hvb⟩ : ∃ vb, vb = valB l := ⟨_, rfl⟩
  have HVL := Lib.hid (show vp.1.length ≤ 256 ∧ vb.1.length ≤ 8960 by rw [hvp, hvb]; exact ⟨valP_len _, valB_len _⟩)
  have HVP := Lib.hid hvp
  have HVB := Lib.hid hvb
  rw [← hvp] at HPA
  clear hvp hvb
  go_wp2_with fail
  refine HPA.out.mono ?_
  rintro e w3 ⟨Ap, cp, rfl, hrp, hF3⟩
  have HP3 := Lib.hid hrp
  have HF3 := Lib.hid hF3
  have HRP := Lib.hid ((rparse w3 A2 cap2 b (rd_fr HL.out.2.2.1 ((HF1.out.trans HF2.out (fun _ _ e => e)).trans hF3 (fun _ _ e => e))) HL.out.2.2.2.2.1 HL.out.2.2.2.2.2.1).mono fun _ _ h => gotP h)
  rw [← HL.out.2.2.2.2.2.2.1, ← HVP.out] at HRP
  clear hrp hF3 HPA
  go_wp2_with fail
  refine HRP.out.mono ?_
  rintro e w4 ⟨Aq, cq, rfl, hrq, hF4⟩
  have HQ4 := Lib.hid hrq
  have HF4 := Lib.hid hF4
  have HF24 := Lib.hid (HF3.out.trans hF4 (fun _ _ e => e))
  have HPR := Lib.hid ((HDD.out.print w4 Am cm l (HM2.out.fr HF24.out)).mono fun _ _ h => gotW h)
  rw [← HL.out.2.1, ← HVB.out] at HPR
  clear hrq hF4 HRP
  go_wp2_with fail
  refine HPR.out.mono ?_
  rintro e w5 ⟨Ar, cr_, rfl, hrr, hF5⟩
  have HR5 := Lib.hid hrr
  have HF5 := Lib.hid hF5
  have HF05 := Lib.hid (((HF1.out.trans HF2.out (fun _ _ e => e)).trans HF24.out (fun _ _ e => e)).trans hF5 (fun _ _ e => e))
  have HRB := Lib.hid ((rprint w5 A cap l (rdN_fr HL.out.1.rd HF05.out) (by have := HL.out.1.len; omega)).mono fun _ _ h => gotB h)
  rw [← HL.out.2.1, ← HVB.out] at HRB
  clear hrr hF5 HPR
  go_wp2_with fail
  refine HRB.out.mono ?_
  rintro e w6 ⟨As, cs, rfl, hrs, hF6⟩
  have HS6 := Lib.hid hrs
  have HF6 := Lib.hid hF6
  have HF46 := Lib.hid (HF5.out.trans hF6 (fun _ _ e => e))
  have HSN := Lib.hid (sameN_any w6 Ap Aq w6.heap.size w6.heap.size cp cq vp.1 vp.1 (rdN_fr HP3.out (HF4.out.trans HF46.out (fun _ _ e => e))) (rdN_fr HQ4.out HF46.out) (Nat.le_refl _) (Nat.le_refl _) (by have := HVL.out.1; omega))
  rw [decide_eq_true rfl] at HSN
  obtain ⟨vp1, vp2⟩ := vp
  obtain ⟨vb1, vb2⟩ := vb
  have hv1 : vp1.length ≤ 256 := HVL.out.1
  have hv2 : vb1.length ≤ 8960 := HVL.out.2
  have HR6 : Hid (Rd w5 w5.heap.size Ar vb1) := HR5
  have HS7 : Hid (Rd w6 w6.heap.size As vb1) := HS6
  have HSN : Hid (Calls Try.prog 14 #[.slice Ap vp1.length cp, .slice Aq vp1.length cq] w6 fun e w' => e = .returned (.bool true) ∧ Calm w6 w') := HSN
  have HB6 : Hid (∀ w7, Fr (fun _ => False) w6 w7 → Calls Try.prog 15 #[.slice Ar vb1.length cr_, .slice As vb1.length cs] w7 fun e w' => e = .returned (.bool true) ∧ Calm w7 w') := Lib.hid fun w7 hF => by
    have h := same_any w7 Ar As w7.heap.size w7.heap.size cr_ cs vb1 vb1 (rd_fr HR6.out (HF6.out.trans hF (fun _ _ e => e))) (rd_fr HS7.out hF) (by omega)
    rwa [decide_eq_true rfl] at h
  have HB7 : Hid (∀ w7, Fr (fun _ => False) w6 w7 → Calls Try.prog 15 #[.slice Ao nb co, .slice A2 nb cap2] w7 fun e w' => e = .returned (.bool true) ∧ Calm w7 w') := Lib.hid fun w7 hF => by
    have h := same_any w7 Ao A2 w7.heap.size w7.heap.size co cap2 b b (rd_fr HO1.out.1 (((HF2.out.trans HF24.out (fun _ _ e => e)).trans HF46.out (fun _ _ e => e)).trans hF (fun _ _ e => e))) (rd_fr HL.out.2.2.1 ((HF05.out.trans HF6.out (fun _ _ e => e)).trans hF (fun _ _ e => e))) HL.out.2.2.2.2.2.1
    rwa [decide_eq_true rfl, ← HL.out.2.2.2.2.2.2.1] at h
  have HN7 : Hid (∀ w7, Fr (fun _ => False) w6 w7 → Calls Try.prog 14 #[.slice Am n cm, .slice A n cap] w7 fun e w' => e = .returned (.bool true) ∧ Calm w7 w') := Lib.hid fun w7 hF => by
    have h := sameN_any w7 Am A w7.heap.size w7.heap.size cm cap l l (rdN_fr HM2.out.rd ((HF24.out.trans HF46.out (fun _ _ e => e)).trans hF (fun _ _ e => e))) (rdN_fr HL.out.1.rd ((HF05.out.trans HF6.out (fun _ _ e => e)).trans hF (fun _ _ e => e))) (Nat.le_refl _) (Nat.le_refl _) (by have := HL.out.1.len; omega)
    rwa [decide_eq_true rfl, ← HL.out.2.1] at h
  obtain ⟨q1, hq1⟩ : ∃ q1, q1 = vp1.length := ⟨_, rfl⟩
  obtain ⟨q2, hq2⟩ : ∃ q2, q2 = vb1.length := ⟨_, rfl⟩
  rw [← hq1] at HSN
  rw [← hq2] at HB6
  simp only [← hq1, ← hq2]
  obtain ⟨z, hz⟩ : ∃ z, z = chkZ s := ⟨_, rfl⟩
  have HC1 := Lib.hid (fun (w7 : World) => HDD.out.check w7 s HL.out.2.2.2.2.2.2.2)
  have HC2 := Lib.hid (fun (w7 : World) => rcheck w7 s HL.out.2.2.2.2.2.2.2)
  rw [← hz] at HC1 HC2
  have HF06 := Lib.hid (HF05.out.trans HF6.out (fun _ _ e => e))
  clear hv1 hv2 hq1 hq2 hz hrs hF6 HRB
  go_wp2_with fail
  refine HSN.out.mono ?_
  rintro e w7 ⟨rfl, hC7⟩
  have HF7 := Lib.hid hC7.fr
  clear hC7
  go_wp2_with fail
  refine (HB6.out w7 HF7.out).mono ?_
  rintro e w8 ⟨rfl, hC8⟩
  have HF8 := Lib.hid (HF7.out.trans hC8.fr (fun _ _ e => e))
  clear hC8
  go_wp2_with fail
  refine (HC1.out w8).mono ?_
  rintro e w9 ⟨rfl, hF9⟩
  have HF9 := Lib.hid (HF8.out.trans hF9 (fun _ _ e => e))
  clear hF9
  go_wp2_with fail
  refine (HC2.out w9).mono ?_
  rintro e w' ⟨rfl, rfl⟩
  go_wp2_with fail
  refine (HB7.out w9 HF9.out).mono ?_
  rintro e w10 ⟨rfl, hC10⟩
  have HF10 := Lib.hid (HF9.out.trans hC10.fr (fun _ _ e => e))
  clear hC10
  go_wp2_with fail
  refine (HN7.out w10 HF10.out).mono ?_
  rintro e w11 ⟨rfl, hC11⟩
  have HF11 := Lib.hid (HF10.out.trans hC11.fr (fun _ _ e => e))
  clear hC11
  go_wp2_with fail
  refine (HDD.out.works w11).mono ?_
  rintro e w12 ⟨rfl, hF12⟩
  have HF12 := Lib.hid ((HF06.out.trans HF11.out (fun _ _ e => e)).trans hF12 (fun _ _ e => e))
  clear hF12
  go_wp2_with fail
  go_ret
  exact ⟨rfl, HF12.out⟩
end Go.Proofs.Ytppkmfhlmmlckaa.nm
