/-
  Open.
-/
import Derived.Test.YtflapnbpaodhaaaGreatDoorHdI
namespace Go.Proofs.YtflapnbpaodhaaaGreatDoor.hd
set_option maxRecDepth 100000
open Go.RowKit Go.Maps ds
set_option maxRecDepth 100000

instance (N at_ rc : Nat) (h : List UInt8) : Decidable (rightH N at_ rc h) := inferInstanceAs (Decidable (_ ∧ _))
instance (N at_ rc : Nat) (d : DS) (h : List UInt8) : Decidable (rightD N at_ rc d h) := inferInstanceAs (Decidable (_ ∧ _))
/-- The header, its turn, how many it logs, what it logs. -/
abbrev hdOf (d : DS) (at_ : Nat) : List UInt8 := d.img (at_ : Int)
abbrev tnOf (d : DS) (at_ : Nat) : Nat := numAt (hdOf d at_) 4 4
abbrev cnOf (d : DS) (at_ : Nat) : Nat := numAt (hdOf d at_) 8 2
abbrev lgOf (d : DS) (at_ : Nat) : List (Int × List UInt8) := logL d at_ (hdOf d at_) (cnOf d at_)
/-- What opening does, and answers. -/
def openR (N at_ rc : Nat) (d : DS) : DS × Int :=
  if d.dk = true then (d, 10)
  else if rightD N at_ rc d (hdOf d at_) then (if cnOf d at_ = 0 then (d, 0) else bringR d at_ (tnOf d at_) (lgOf d at_))
  else (d, 40)
def OpenPost (w0 w : World) (pb N B : Nat) (d : DS) (at_ rc : Nat) (r : DS × Int) (e : Ending) (w' : World) : Prop :=
  Keep w w' ∧ IsD w0 pb N (B + 210) r.1 w' ∧ ((∃ wb, e = .returned (.tuple #[.pointer (some ⟨wb, 0, none⟩), .int .i64 0]) ∧ r.2 = 0 ∧ w.heap.size ≤ wb ∧ w'.heap[wb]? = some (walO pb at_ rc (tnOf d at_) false)) ∨
    (e = .returned (.tuple #[.pointer none, .int .i64 r.2]) ∧ r.2 ≠ 0))

theorem read_all (w0 w : World) (pb N B : Nat) (d : DS) (hD : IsD w0 pb N B d w) (hT : cr.Tab w) (at_ rc : Nat) (h1 : 1 ≤ rc) (h2 : rc ≤ 100) (h3 : at_ + rc < N) (h4 : N ≤ 4096) :
    Calls Tryz.prog 42 #[roomV pb at_ rc] w fun e w' => Fr (fun _ => False) w w' ∧
      ((e = .returned (.tuple #[.int .i64 0, .slice none 0 0, .int .i64 (openR N at_ rc d).2]) ∧ (openR N at_ rc d).1 = d ∧ (openR N at_ rc d).2 ≠ 0) ∨
        (∃ p cap, e = .returned (.tuple #[.int .i64 ((tnOf d at_ : Nat) : Int), .slice p (cnOf d at_) cap, .int .i64 0]) ∧ rightD N at_ rc d (hdOf d at_) ∧ BksT w' p (lgOf d at_) ∧ openR N at_ rc d = if cnOf d at_ = 0 then (d, 0) else bringR d at_ (tnOf d at_) (lgOf d at_))) := by
  cases hdk : d.dk with
  | true =>
    refine (read_gone w0 w pb N B d hD hdk at_ rc h3).mono ?_
    rintro e w' ⟨hF, rfl⟩
    have e : openR N at_ rc d = (d, 10) := if_pos hdk
    rw [e]
    exact ⟨hF, Or.inl ⟨rfl, rfl, by simp⟩⟩
  | false =>
    have hne : ¬ d.dk = true := by rw [hdk]; simp
    refine (read_any w0 w pb N B d hD hT hdk at_ rc h1 h2 h3 h4 (hdOf d at_) rfl).mono ?_
    rintro e w' ⟨hF, ⟨p, cap, rfl, hr, hb⟩ | ⟨rfl, hr⟩⟩
    · exact ⟨hF, Or.inr ⟨p, cap, rfl, hr, hb, (if_neg hne).trans (if_pos hr)⟩⟩
    · have e : openR N at_ rc d = (d, 40) := (if_neg hne).trans (if_neg hr)
      rw [e]
      exact ⟨hF, Or.inl ⟨rfl, rfl, by simp⟩⟩

theorem toArr_get (l : List Value) (i : Nat) : l.toArray[i]? = l[i]? := List.getElem?_toArray
theorem lg_in {N at_ rc : Nat} {d : DS} (hr : rightD N at_ rc d (hdOf d at_)) : (lgOf d at_).length = cnOf d at_ ∧ cnOf d at_ ≤ rc ∧ ∀ x ∈ lgOf d at_, 0 ≤ x.1 ∧ x.1 < (N : Int) := by
  refine ⟨logL_length _ _ _ _, hr.1.1, fun x hx => ?_⟩
  obtain ⟨i, hi, rfl⟩ := List.mem_map.1 hx
  have := (hr.1.2 i (by simpa using hi)).2.1
  show 0 ≤ ((homeN _ i : Nat) : Int) ∧ ((homeN _ i : Nat) : Int) < N
  omega
set_option maxHeartbeats 4000000 in
theorem open_any (w0 w : World) (pb N B : Nat) (d : DS) (hD : IsD w0 pb N B d w) (hT : cr.Tab w) (at_ rc : Nat) (h1 : 1 ≤ rc) (h2 : rc ≤ 100) (h3 : at_ + rc < N) (h4 : N ≤ 4096) (hB : B + 210 ≤ 100000000) :
    Calls Tryz.prog 14 #[.pointer (some ⟨pb, 0, none⟩), .int .i64 (at_ : Int), .int .i64 (rc : Int)] w fun e w' => OpenPost w0 w pb N B d at_ rc (openR N at_ rc d) e w' := by
  obtain ⟨c0, hN, hpb⟩ := hD.cell0
  have HRO := Lib.hid (roomOn_ok w pb N at_ rc c0 hpb h1 h2 h3 h4)
  have HD := Lib.hid (⟨hD, hT⟩ : _ ∧ _)
  have HRD : Hid (∀ w2, IsD w0 pb N B d w2 → cr.Tab w2 → Calls Tryz.prog 42 #[.agg #[.pointer (some ⟨pb, 0, none⟩), .int .i64 (at_ : Int), .int .i64 (rc : Int)]] w2 fun e w' => Fr (fun _ => False) w2 w' ∧ _) := Lib.hid fun w2 hD2 hT2 => read_all w0 w2 pb N B d hD2 hT2 at_ rc h1 h2 h3 h4
  have hat : at_ < N := by omega
  clear hD hT c0 hN hpb
  unfold roomV at HRO
  go_enter Tryz.func14, Tryz.ntmps14
  go_wp2_with fail
  refine HRO.out.mono ?_
  rintro e w1 ⟨rfl, hF1⟩
  have hFa := hF1.alloc (.cells #[.pointer (some ⟨pb, 0, none⟩), .int .i64 (at_ : Int), .int .i64 (rc : Int)] 72)
  have HD1 := Lib.hid (⟨(HD.out.1.calm hF1).calm ((Fr.refl _ _).alloc (.cells #[.pointer (some ⟨pb, 0, none⟩), .int .i64 (at_ : Int), .int .i64 (rc : Int)] 72)), HD.out.2.fr hFa, hFa, BoxR.mk_ w1 pb at_ rc⟩ : _ ∧ _ ∧ _ ∧ _)
  clear hF1 hFa HD HRO
  go_wp2_with fail
  generalize w1.alloc (.cells #[.pointer (some ⟨pb, 0, none⟩), .int .i64 (at_ : Int), .int .i64 (rc : Int)] 72) = wa at HD1 ⊢
  generalize w1.heap.size = gR at HD1 ⊢
  refine (HRD.out wa HD1.out.1 HD1.out.2.1).mono ?_
  rintro e w2 ⟨hF2, hcase⟩
  have H2 := Lib.hid (⟨HD1.out.1.calm hF2, HD1.out.2.1.fr hF2, HD1.out.2.2.1.trans hF2 (fun _ _ e => e), HD1.out.2.2.2.calm hF2⟩ : _ ∧ _ ∧ _ ∧ _)
  clear hF2 HD1 HRD
  rcases hcase with ⟨rfl, hd, hz⟩ | ⟨p, cap, rfl, hr, hb, ho⟩
  · obtain ⟨z, hz'⟩ : ∃ z, z = (openR N at_ rc d).2 := ⟨_, rfl⟩
    have HZ := Lib.hid (⟨hz', hd⟩ : _ ∧ _)
    rw [← hz'] at hz ⊢
    have hzb : (z != 0) = true := by simpa using hz
    have hze : (z == 0) = false := by simpa using hz
    clear hz' hd
    go_wp2_with fail
    go_ret2
    exact ⟨Keep.of_fr H2.out.2.2.1, by rw [HZ.out.2]; exact isD_big H2.out.1 (by omega) hB, Or.inr ⟨by rw [← HZ.out.1]; rfl, by rw [← HZ.out.1]; exact hz⟩⟩
  · obtain ⟨n, hn⟩ : ∃ n, n = cnOf d at_ := ⟨_, rfl⟩
    obtain ⟨tn, htn⟩ : ∃ tn, tn = tnOf d at_ := ⟨_, rfl⟩
    obtain ⟨l, hl⟩ : ∃ l, l = lgOf d at_ := ⟨_, rfl⟩
    have hlg := lg_in hr
    have HTN := Lib.hid (show tn < 4294967296 by rw [htn]; exact numAt_lt4 _ _)
    rw [← hn, ← htn, ← hl] at ho
    rw [← hl] at hb
    rw [← hl, ← hn] at hlg
    rw [← hn, ← htn]
    have HE := Lib.hid htn
    have HL := Lib.hid hlg
    have HB := Lib.hid hb
    have HO := Lib.hid ho
    clear hr hn htn hl hlg hb ho
    obtain ⟨b0, b1, b2⟩ := H2.out.2.2.2.c
    by_cases hc : n = 0
    · have hc0 : ¬ (0 : Int) < n := by omega
      have hoo : openR N at_ rc d = (d, 0) := HO.out.trans (if_pos hc)
      have HOO := Lib.hid hoo
      have HC := Lib.hid hc
      clear hoo hc
      go_wp2_with fail
      go_ret2
      rw [HOO.out]
      have hFe := (Fr.refl (fun _ => False) w2).alloc (.cells #[.pointer (some ⟨pb, 0, none⟩), .int .i64 (at_ : Int), .int .i64 (rc : Int), .int .i64 (tn : Int), .bool false] 74)
      exact ⟨Keep.of_fr (H2.out.2.2.1.trans hFe (fun _ _ e => e)), isD_big (H2.out.1.calm hFe) (by omega) hB, Or.inl ⟨w2.heap.size, rfl, rfl, H2.out.2.2.1.size, by rw [← HE.out]; exact heap_alloc_new _ _⟩⟩
    · have hc0 : (0 : Int) < n := by omega
      have HOO := Lib.hid (HO.out.trans (if_neg hc))
      have HBR := Lib.hid (bring_any w2 H2.out.2.1 pb at_ rc tn HTN.out p n cap)
      unfold roomV at HBR
      clear hc
      go_wp2_with fail
      refine HBR.out.mono ?_
      rintro e w3 ⟨g, v1, v2, p2, rfl, hgb, hs1, hs2, hb2, hgs, hF3⟩
      have HRUN := Lib.hid (run_any w3 [v1, v2] (fun z w' => z = (bringR d at_ tn l).2 ∧ IsD w0 pb N (B + 210) (bringR d at_ tn l).1 w' ∧ Keep w3 w') g 0 2
        (bring_runs hs1 hs2 HL.out.1.symm (H2.out.1.calm hF3) (HB.out.keep (Keep.of_fr hF3)) hb2 (by have := HL.out; omega) (by have := HL.out; omega) HL.out.2.2 hat (fun w' hD' hK' => ⟨rfl, isD_big hD' (by have := HL.out; omega) hB, hK'⟩))
        ⟨_, hgb⟩ (fun i v hi => by rw [cellAt hgb, Nat.zero_add]; exact (toArr_get [v1, v2] i).trans hi) (by simp))
      have H3 := Lib.hid (⟨H2.out.2.2.1.trans hF3 (fun _ _ e => e), H2.out.2.2.2.calm hF3⟩ : _ ∧ _)
      clear hgb hs1 hs2 hb2 hgs hF3 H2
      go_wp2_with fail
      refine HRUN.out.mono ?_
      rintro e w4 ⟨z, rfl, hz, hD4, hK4⟩
      have H4 := Lib.hid (⟨hz, hD4, (Keep.of_fr H3.out.1).trans hK4, H3.out.2.keep hK4⟩ : _ ∧ _ ∧ _ ∧ _)
      clear hz hD4 hK4 H3 b0 b1 b2
      obtain ⟨b0, b1, b2⟩ := H4.out.2.2.2.c
      by_cases hz0 : z = 0
      · subst hz0
        go_wp2_with fail
        go_ret2
        rw [HOO.out]
        have hFe := (Fr.refl (fun _ => False) w4).alloc (.cells #[.pointer (some ⟨pb, 0, none⟩), .int .i64 (at_ : Int), .int .i64 (rc : Int), .int .i64 (tn : Int), .bool false] 74)
        exact ⟨H4.out.2.2.1.trans (Keep.of_fr hFe), H4.out.2.1.calm hFe, Or.inl ⟨w4.heap.size, rfl, H4.out.1.symm, H4.out.2.2.1.1, by rw [← HE.out]; exact heap_alloc_new _ _⟩⟩
      · have hzb : (z != 0) = true := by simpa using hz0
        go_wp2_with fail
        go_ret2
        rw [HOO.out]
        exact ⟨H4.out.2.2.1, H4.out.2.1, Or.inr ⟨by rw [← H4.out.1]; rfl, by rw [← H4.out.1]; exact hz0⟩⟩
end Go.Proofs.YtflapnbpaodhaaaGreatDoor.hd
