/-
  The program's Parse.
-/
import Derived.Test.YtgimiggffpokpaaGreatDoorHfC
namespace Go.Proofs.YtgimiggffpokpaaGreatDoor.he
set_option maxRecDepth 100000
open Go.RowKit Go.Maps
set_option maxRecDepth 100000

theorem mask12 (m : Nat) (h : m < 8589934592) : bits .and .i64 (m : Int) 4095 = ((m % 4096 : Nat) : Int) := by
  have h1 : (BitVec.ofInt 64 (m : Int)).toNat = m := by rw [BitVec.ofInt_natCast, BitVec.toNat_ofNat]; exact Nat.mod_eq_of_lt (by omega)
  have h2 : (BitVec.ofInt 64 (4095 : Int)).toNat = 4095 := by decide
  show IntKind.i64.wrap ((BitVec.ofInt 64 (m : Int) &&& BitVec.ofInt 64 4095).toNat : Int) = _
  rw [BitVec.toNat_and, h1, h2, show (4095 : Nat) = 2 ^ 12 - 1 from rfl, Nat.and_two_pow_sub_one_eq_mod]
  exact IntWalk.i64_in _ (by omega)
/-- A field of a header that is read: where it lies, what it is. -/
theorem pfld {w w' : World} {blk off : Nat} {b : Bts} (hr : Rd w w.heap.size (some ⟨blk, off, none⟩) b) (hF : Fr (fun _ => False) w w') (a n : Nat) : Rd w' w.heap.size (some ⟨blk, off + a, none⟩) (fld b a n) := fld_rd (hr.still hF (Nat.le_refl _)) a n
set_option maxHeartbeats 8000000 in
theorem pparse (w : World) (hT : DT w) (A : Option Addr) (cap : Nat) (b : Bts) (hr : Rd w w.heap.size A b) (hcap : b.length ≤ cap) (hl : b.length ≤ 140737488351232) :
    Calls Tryz.prog 30 #[.slice A b.length cap] w fun e w' => e = tup (hdV (parseV b).1) (parseV b).2 ∧ Fr (fun _ => False) w w' := by
  have HL := Lib.hid hl
  have HF := Lib.hid (fun o => (Fr.refl (fun _ => False) w).alloc o)
  have HZ := Lib.hid (fun o => heap_alloc_new w o)
  have HT := Lib.hid hT
  clear hT
  by_cases h512 : b.length = 512
  case neg =>
    rw [parse_bad (fun h => h512 h.1)]
    obtain ⟨n, hn⟩ : ∃ n, n = b.length := ⟨_, rfl⟩
    rw [← hn] at h512 hl hcap ⊢
    have ht : ((n : Int) != 512) = true := bne_iff_ne.2 (by omega)
    clear h512 hr hn
    go_enter Tryz.func30, Tryz.ntmps30
    go_wp2_with fail
    exact bodyPost_ret (v := .tuple #[noV, .int .i64 130]) (results_rec rfl _ _ w.heap.size _ (.int .i64 130) rfl rfl rfl (HZ.out _)) rfl ⟨rfl, HF.out _⟩
  case pos =>
    obtain ⟨blk, off, rfl, hlt, -⟩ := hr (by intro e; rw [e] at h512; cases h512)
    have HR := Lib.hid (⟨hr, (hr.still (HF.out noRec) (Nat.le_refl _))⟩ : Rd w w.heap.size (some ⟨blk, off, none⟩) b ∧ Rd (w.alloc noRec) w.heap.size (some ⟨blk, off, none⟩) b)
    have HB := Lib.hid h512
    have h7 : 512 ≤ cap := by omega
    rw [h512]
    -- the fields, in any world behind this one
    have HOF := Lib.hid (fun (wx : World) (hF : Fr (fun _ => False) w wx) (k a n : Nat) (h : plL[k]? = some (a, n)) => pof wx (HT.out.keep hF) k a n h blk off 512 cap (by omega))
    have HRD := Lib.hid (fun (wx : World) (hF : Fr (fun _ => False) w wx) (a n : Nat) => (fld_rd (hr.still hF (Nat.le_refl _)) a n : Rd wx w.heap.size (some ⟨blk, off + a, none⟩) (fld b a n)))
    have HOC := Lib.hid (fun (wx : World) (hF : Fr (fun _ => False) w wx) (a n : Nat) (h : a + n ≤ 512) => (show Calls Tryz.prog 44 #[.slice (some ⟨blk, off + a, none⟩) n n] wx fun e w' => e = .returned (.tuple #[.int .i64 (octalV (fld b a n)).1, .int .i64 (octalV (fld b a n)).2]) ∧ Fr (fun _ => False) wx w' from by
      have hln : (fld b a n).length = n := fld_len (by rw [HB.out]; exact h)
      have h1 := poctal wx (some ⟨blk, off + a, none⟩) n (fld b a n) ((HRD.out wx hF a n).more hF.size) (fun e => by cases e) (by omega) (by omega) (Nat.le_trans (show n ≤ 512 by omega) (by decide))
      rw [hln] at h1
      exact h1))
    have HTX := Lib.hid (fun (wx : World) (hF : Fr (fun _ => False) w wx) (a n : Nat) (h : a + n ≤ 512) => ptext wx blk (off + a) w.heap.size n n (fld b a n) (HRD.out wx hF a n) hF.size (fld_len (by rw [HB.out]; exact h)).symm (Nat.le_refl _) (by omega))
    have HSM := Lib.hid (fun (wx : World) (hF : Fr (fun _ => False) w wx) => (show Calls Tryz.prog 46 #[.slice (some ⟨blk, off, none⟩) 512 cap] wx fun e w' => e = .returned (.int .i64 (sumV b : Nat)) ∧ Fr (fun _ => False) wx w' from by
      have h1 := psum wx (HT.out.keep hF) (some ⟨blk, off, none⟩) cap b ((hr.still hF (Nat.le_refl _)).more hF.size) HL.out
      rw [HB.out] at h1
      exact h1))
    have HCV := Lib.hid (fun (wx : World) (hF : Fr (fun _ => False) w wx) => (show (convert 22 9 (.slice (some ⟨blk, off + 257, none⟩) 8 8)).run Tryz.prog wx = .ok (.string (tx (fld b 257 8))) wx from by
      have h := text_conv (HRD.out wx hF 257 8) 8 8 (by rw [fld_len (by rw [HB.out]; decide)]; omega)
      rw [List.take_of_length_le (by rw [fld_len (by rw [HB.out]; decide)]; omega)] at h
      exact h))
    have H1 := Lib.hid (HOF.out _ (HF.out noRec) 9 257 8 rfl)
    have HZR := Lib.hid (fun (wx : World) (hF : Fr (fun _ => False) (w.alloc noRec) wx) => (show wx.heap[w.heap.size]? = some noRec from by
      rw [hF.block w.heap.size (by rw [World.size_alloc]; omega) (fun e => e)]
      exact heap_alloc_new _ _))
    clear hr hlt hl hcap h512
    obtain ⟨V, hV⟩ : ∃ V, V = tup (hdV (parseV b).1) (parseV b).2 := ⟨_, rfl⟩
    rw [← hV]
    have HBAD := Lib.hid (show ¬ headB b → V = tup noV 130 from fun h => by rw [hV, parse_bad h]; rfl)
    have HGOOD := Lib.hid (show headB b → V = tup (hdV (headOf b)) 0 from fun h => by rw [hV]; unfold parseV; rw [if_pos h])
    clear hV
    have Kw0 := Lib.hid (⟨HF.out noRec, Fr.refl _ _⟩ : Fr (fun _ => False) w (w.alloc noRec) ∧ Fr (fun _ => False) (w.alloc noRec) (w.alloc noRec))
    have hu := ustar_eq b
    obtain ⟨s257, hs257⟩ : ∃ s, s = tx (fld b 257 8) := ⟨_, rfl⟩
    rw [← hs257] at HCV hu
    clear hs257
    go_enter Tryz.func30, Tryz.ntmps30
    go_wp2_with fail
    refine H1.out.mono ?_
    rintro e w1 ⟨rfl, hF⟩
    have Kw1 := Lib.hid (⟨Kw0.out.1.trans hF (fun _ _ e => e), Kw0.out.2.trans hF (fun _ _ e => e)⟩ : Fr (fun _ => False) w w1 ∧ Fr (fun _ => False) (w.alloc noRec) w1)
    clear hF H1
    have hcv := HCV.out w1 Kw1.out.1
    clear HCV
    rcases hu with ⟨hu, hu2⟩ | ⟨hu, hu2⟩
    case inr =>
      have HE := Lib.hid (HBAD.out (fun h => hu2 h.2.1))
      have cc0 : w1.cell? ⟨w.heap.size, 0, none⟩ = some (.string ⟨#[]⟩) := (cellAt (HZR.out w1 Kw1.out.2) 0).trans rfl
      have ff0 : w1.frozen? ⟨w.heap.size, 0, none⟩ = false := freeAt (HZR.out w1 Kw1.out.2) 0
      have cc1 : w1.cell? ⟨w.heap.size, 1, none⟩ = some (.string ⟨#[]⟩) := (cellAt (HZR.out w1 Kw1.out.2) 1).trans rfl
      have ff1 : w1.frozen? ⟨w.heap.size, 1, none⟩ = false := freeAt (HZR.out w1 Kw1.out.2) 1
      have cc2 : w1.cell? ⟨w.heap.size, 2, none⟩ = some (.int .i64 0) := (cellAt (HZR.out w1 Kw1.out.2) 2).trans rfl
      have ff2 : w1.frozen? ⟨w.heap.size, 2, none⟩ = false := freeAt (HZR.out w1 Kw1.out.2) 2
      have cc3 : w1.cell? ⟨w.heap.size, 3, none⟩ = some (.int .i64 0) := (cellAt (HZR.out w1 Kw1.out.2) 3).trans rfl
      have ff3 : w1.frozen? ⟨w.heap.size, 3, none⟩ = false := freeAt (HZR.out w1 Kw1.out.2) 3
      have cc4 : w1.cell? ⟨w.heap.size, 4, none⟩ = some (.int .u8 0) := (cellAt (HZR.out w1 Kw1.out.2) 4).trans rfl
      have ff4 : w1.frozen? ⟨w.heap.size, 4, none⟩ = false := freeAt (HZR.out w1 Kw1.out.2) 4
      clear hu2 HGOOD HBAD HOF HOC HTX HSM
      go_wp2_with fail
      exact bodyPost_ret (v := .tuple #[noV, .int .i64 130]) (results_rec rfl _ _ w.heap.size _ (.int .i64 130) rfl rfl rfl (five_set (HZR.out w1 Kw1.out.2))) rfl ⟨HE.out.symm, five_fr Kw1.out.1 (Nat.le_refl _)⟩
    case inl =>
    have HU := Lib.hid hu2
    clear hu2
    have H2 := Lib.hid (HOF.out _ Kw1.out.1 1 100 8 rfl)
    go_wp2_with fail
    refine H2.out.mono ?_
    rintro e w2 ⟨rfl, hF⟩
    have Kw2 := Lib.hid (⟨Kw1.out.1.trans hF (fun _ _ e => e), Kw1.out.2.trans hF (fun _ _ e => e)⟩ : Fr (fun _ => False) w w2 ∧ Fr (fun _ => False) (w.alloc noRec) w2)
    clear hF H2
    have hm0 := octal_nonneg (fld b 100 8)
    have hmB := octal_lt (fld b 100 8)
    have hs0 := octal_nonneg (fld b 124 12)
    have hsB := octal_lt (fld b 124 12)
    have hu0 := octal_nonneg (fld b 148 8)
    have huB := octal_lt (fld b 148 8)
    obtain ⟨m, hm⟩ : ∃ n : Nat, (octalV (fld b 100 8)).1 = n := ⟨(octalV (fld b 100 8)).1.toNat, by omega⟩
    obtain ⟨z, hz⟩ : ∃ n : Nat, (octalV (fld b 124 12)).1 = n := ⟨(octalV (fld b 124 12)).1.toNat, by omega⟩
    obtain ⟨u, hu⟩ : ∃ n : Nat, (octalV (fld b 148 8)).1 = n := ⟨(octalV (fld b 148 8)).1.toNat, by omega⟩
    obtain ⟨e1, he1⟩ : ∃ v, v = (octalV (fld b 100 8)).2 := ⟨_, rfl⟩
    obtain ⟨f1, hf1⟩ : ∃ v, v = (octalV (fld b 124 12)).2 := ⟨_, rfl⟩
    obtain ⟨g1, hg1⟩ : ∃ v, v = (octalV (fld b 148 8)).2 := ⟨_, rfl⟩
    have HD := Lib.hid (⟨hm, he1, hz, hf1, hu, hg1⟩ : _ ∧ _ ∧ _ ∧ _ ∧ _ ∧ _)
    rw [hm] at hmB
    rw [hz] at hsB
    rw [hu] at huB
    have hmB' : m < 8589934592 := by omega
    have hsB' : z < 8589934592 := by omega
    have huB' : u < 8589934592 := by omega
    have HO1 := Lib.hid (fun wx hF => HOC.out wx hF 100 8 (by decide))
    have HO2 := Lib.hid (fun wx hF => HOC.out wx hF 124 12 (by decide))
    have HO3 := Lib.hid (fun wx hF => HOC.out wx hF 148 8 (by decide))
    rw [hm, ← he1] at HO1
    rw [hz, ← hf1] at HO2
    rw [hu, ← hg1] at HO3
    clear HOC hm0 hmB hs0 hsB hu0 huB hm he1 hz hf1 hu hg1
    have H3 := Lib.hid (HO1.out _ Kw2.out.1)
    go_wp2_with fail
    refine H3.out.mono ?_
    rintro e w3 ⟨rfl, hF⟩
    have Kw3 := Lib.hid (⟨Kw2.out.1.trans hF (fun _ _ e => e), Kw2.out.2.trans hF (fun _ _ e => e)⟩ : Fr (fun _ => False) w w3 ∧ Fr (fun _ => False) (w.alloc noRec) w3)
    clear hF H3
    have H4 := Lib.hid (HOF.out _ Kw3.out.1 4 124 12 rfl)
    go_wp2_with fail
    refine H4.out.mono ?_
    rintro e w4 ⟨rfl, hF⟩
    have Kw4 := Lib.hid (⟨Kw3.out.1.trans hF (fun _ _ e => e), Kw3.out.2.trans hF (fun _ _ e => e)⟩ : Fr (fun _ => False) w w4 ∧ Fr (fun _ => False) (w.alloc noRec) w4)
    clear hF H4
    have H5 := Lib.hid (HO2.out _ Kw4.out.1)
    go_wp2_with fail
    refine H5.out.mono ?_
    rintro e w5 ⟨rfl, hF⟩
    have Kw5 := Lib.hid (⟨Kw4.out.1.trans hF (fun _ _ e => e), Kw4.out.2.trans hF (fun _ _ e => e)⟩ : Fr (fun _ => False) w w5 ∧ Fr (fun _ => False) (w.alloc noRec) w5)
    clear hF H5
    have H6 := Lib.hid (HOF.out _ Kw5.out.1 6 148 8 rfl)
    go_wp2_with fail
    refine H6.out.mono ?_
    rintro e w6 ⟨rfl, hF⟩
    have Kw6 := Lib.hid (⟨Kw5.out.1.trans hF (fun _ _ e => e), Kw5.out.2.trans hF (fun _ _ e => e)⟩ : Fr (fun _ => False) w w6 ∧ Fr (fun _ => False) (w.alloc noRec) w6)
    clear hF H6
    have H7 := Lib.hid (HO3.out _ Kw6.out.1)
    go_wp2_with fail
    refine H7.out.mono ?_
    rintro e w7 ⟨rfl, hF⟩
    have Kw7 := Lib.hid (⟨Kw6.out.1.trans hF (fun _ _ e => e), Kw6.out.2.trans hF (fun _ _ e => e)⟩ : Fr (fun _ => False) w w7 ∧ Fr (fun _ => False) (w.alloc noRec) w7)
    clear hF H7
    have HX0 := Lib.hid (fun wx hF => HTX.out wx hF 0 100 (by decide))
    have HX8 := Lib.hid (fun wx hF => HTX.out wx hF 157 100 (by decide))
    have HX10 := Lib.hid (fun wx hF => HTX.out wx hF 345 155 (by decide))
    obtain ⟨nm, hnm⟩ : ∃ v, v = tx (textL (fld b 0 100)) := ⟨_, rfl⟩
    obtain ⟨lk, hlk⟩ : ∃ v, v = tx (textL (fld b 157 100)) := ⟨_, rfl⟩
    obtain ⟨pf, hpf⟩ : ∃ v, v = tx (textL (fld b 345 155)) := ⟨_, rfl⟩
    have hsd := str_dec (textL (fld b 0 100))
    have HJN := Lib.hid (fun (wx : World) => pjoin wx (textL (fld b 345 155)) (textL (fld b 0 100)) (Nat.le_trans (text_le _) (Nat.le_trans (fld_le b 345 155) (by decide))) (Nat.le_trans (text_le _) (Nat.le_trans (fld_le b 0 100) (by decide))))
    obtain ⟨jn, hjn⟩ : ∃ v, v = tx (joinV (textL (fld b 345 155)) (textL (fld b 0 100))) := ⟨_, rfl⟩
    rw [← hnm] at HX0 HJN hsd
    rw [← hlk] at HX8
    rw [← hpf] at HX10 HJN
    rw [← hjn] at HJN
    have HN := Lib.hid (⟨hnm, hlk, hpf, hjn⟩ : _ ∧ _ ∧ _ ∧ _)
    clear HTX hnm hlk hpf hjn
    have HX0 := Lib.hid (show ∀ wx, Fr (fun _ => False) w wx → Calls Tryz.prog 45 #[.slice (some ⟨blk, off, none⟩) 100 100] wx fun e w' => e = .returned (.string nm) ∧ Fr (fun _ => False) wx w' from HX0.out)
    have H8 := Lib.hid ((show Calls Tryz.prog 43 #[.int .i64 0, .slice (some ⟨blk, off, none⟩) 512 cap] w7 fun e w' => e = .returned (.slice (some ⟨blk, off, none⟩) 100 100) ∧ Fr (fun _ => False) w7 w' from HOF.out _ Kw7.out.1 0 0 100 rfl))
    go_wp2_with fail
    refine H8.out.mono ?_
    rintro e w8 ⟨rfl, hF⟩
    have Kw8 := Lib.hid (⟨Kw7.out.1.trans hF (fun _ _ e => e), Kw7.out.2.trans hF (fun _ _ e => e)⟩ : Fr (fun _ => False) w w8 ∧ Fr (fun _ => False) (w.alloc noRec) w8)
    clear hF H8
    have H9 := Lib.hid (HX0.out _ Kw8.out.1)
    go_wp2_with fail
    refine H9.out.mono ?_
    rintro e w9 ⟨rfl, hF⟩
    have Kw9 := Lib.hid (⟨Kw8.out.1.trans hF (fun _ _ e => e), Kw8.out.2.trans hF (fun _ _ e => e)⟩ : Fr (fun _ => False) w w9 ∧ Fr (fun _ => False) (w.alloc noRec) w9)
    clear hF H9
    have HBD2 := Lib.hid (show ¬ (e1 = 0 ∧ f1 = 0 ∧ g1 = 0 ∧ u = sumV b ∧ z ≤ 262144 ∧ textL (fld b 0 100) ≠ []) → V = tup noV 130 from fun h => HBAD.out (fun hh => h (by
      obtain ⟨d1, d2, d3, d4, d5, d6⟩ := HD.out
      obtain ⟨-, -, k1, k2, k3, k4, k5, k6⟩ := hh
      rw [d5] at k4
      rw [d3] at k5
      exact ⟨d2.trans k1, d4.trans k2, d6.trans k3, by omega, by omega, k6⟩)))
    have HGD2 := Lib.hid (show e1 = 0 ∧ f1 = 0 ∧ g1 = 0 ∧ u = sumV b ∧ z ≤ 262144 ∧ textL (fld b 0 100) ≠ [] → V = tup (hdV (headOf b)) 0 from fun h => HGOOD.out (by
      obtain ⟨d1, d2, d3, d4, d5, d6⟩ := HD.out
      obtain ⟨k1, k2, k3, k4, k5, k6⟩ := h
      exact ⟨HB.out, HU.out, d2.symm.trans k1, d4.symm.trans k2, d6.symm.trans k3, by rw [d5, k4], by rw [d3]; omega, k6⟩))
    obtain ⟨t, ht⟩ : ∃ v, v = sumV b := ⟨_, rfl⟩
    rw [← ht] at HSM HBD2 HGD2
    have htB : t ≤ 255 * 512 := by rw [ht]; have := sumF_le b 0; rw [HB.out] at this; exact this
    clear HBAD HGOOD ht
    rcases (show e1 ≠ 0 ∨ (e1 = 0 ∧ f1 ≠ 0) ∨ (e1 = 0 ∧ f1 = 0 ∧ g1 ≠ 0) ∨ (e1 = 0 ∧ f1 = 0 ∧ g1 = 0) by omega) with h | ⟨rfl, h⟩ | ⟨rfl, rfl, h⟩ | ⟨rfl, rfl, rfl⟩
    case inl =>
      have hb := bne_iff_ne.2 h
      have HE := Lib.hid (HBD2.out (fun hh => by omega))
      have cc0 : w9.cell? ⟨w.heap.size, 0, none⟩ = some (.string ⟨#[]⟩) := (cellAt (HZR.out w9 Kw9.out.2) 0).trans rfl
      have ff0 : w9.frozen? ⟨w.heap.size, 0, none⟩ = false := freeAt (HZR.out w9 Kw9.out.2) 0
      have cc1 : w9.cell? ⟨w.heap.size, 1, none⟩ = some (.string ⟨#[]⟩) := (cellAt (HZR.out w9 Kw9.out.2) 1).trans rfl
      have ff1 : w9.frozen? ⟨w.heap.size, 1, none⟩ = false := freeAt (HZR.out w9 Kw9.out.2) 1
      have cc2 : w9.cell? ⟨w.heap.size, 2, none⟩ = some (.int .i64 0) := (cellAt (HZR.out w9 Kw9.out.2) 2).trans rfl
      have ff2 : w9.frozen? ⟨w.heap.size, 2, none⟩ = false := freeAt (HZR.out w9 Kw9.out.2) 2
      have cc3 : w9.cell? ⟨w.heap.size, 3, none⟩ = some (.int .i64 0) := (cellAt (HZR.out w9 Kw9.out.2) 3).trans rfl
      have ff3 : w9.frozen? ⟨w.heap.size, 3, none⟩ = false := freeAt (HZR.out w9 Kw9.out.2) 3
      have cc4 : w9.cell? ⟨w.heap.size, 4, none⟩ = some (.int .u8 0) := (cellAt (HZR.out w9 Kw9.out.2) 4).trans rfl
      have ff4 : w9.frozen? ⟨w.heap.size, 4, none⟩ = false := freeAt (HZR.out w9 Kw9.out.2) 4
      clear h HBD2 HGD2 HOF HSM HX8 HX10 HJN hsd
      go_wp2_with fail
      exact bodyPost_ret (v := .tuple #[noV, .int .i64 130]) (results_rec rfl _ _ w.heap.size _ (.int .i64 130) rfl rfl rfl (five_set (HZR.out w9 Kw9.out.2))) rfl ⟨HE.out.symm, five_fr Kw9.out.1 (Nat.le_refl _)⟩
    case inr.inl =>
      have hb := bne_iff_ne.2 h
      have HE := Lib.hid (HBD2.out (fun hh => by omega))
      have cc0 : w9.cell? ⟨w.heap.size, 0, none⟩ = some (.string ⟨#[]⟩) := (cellAt (HZR.out w9 Kw9.out.2) 0).trans rfl
      have ff0 : w9.frozen? ⟨w.heap.size, 0, none⟩ = false := freeAt (HZR.out w9 Kw9.out.2) 0
      have cc1 : w9.cell? ⟨w.heap.size, 1, none⟩ = some (.string ⟨#[]⟩) := (cellAt (HZR.out w9 Kw9.out.2) 1).trans rfl
      have ff1 : w9.frozen? ⟨w.heap.size, 1, none⟩ = false := freeAt (HZR.out w9 Kw9.out.2) 1
      have cc2 : w9.cell? ⟨w.heap.size, 2, none⟩ = some (.int .i64 0) := (cellAt (HZR.out w9 Kw9.out.2) 2).trans rfl
      have ff2 : w9.frozen? ⟨w.heap.size, 2, none⟩ = false := freeAt (HZR.out w9 Kw9.out.2) 2
      have cc3 : w9.cell? ⟨w.heap.size, 3, none⟩ = some (.int .i64 0) := (cellAt (HZR.out w9 Kw9.out.2) 3).trans rfl
      have ff3 : w9.frozen? ⟨w.heap.size, 3, none⟩ = false := freeAt (HZR.out w9 Kw9.out.2) 3
      have cc4 : w9.cell? ⟨w.heap.size, 4, none⟩ = some (.int .u8 0) := (cellAt (HZR.out w9 Kw9.out.2) 4).trans rfl
      have ff4 : w9.frozen? ⟨w.heap.size, 4, none⟩ = false := freeAt (HZR.out w9 Kw9.out.2) 4
      clear h HBD2 HGD2 HOF HSM HX8 HX10 HJN hsd
      go_wp2_with fail
      exact bodyPost_ret (v := .tuple #[noV, .int .i64 130]) (results_rec rfl _ _ w.heap.size _ (.int .i64 130) rfl rfl rfl (five_set (HZR.out w9 Kw9.out.2))) rfl ⟨HE.out.symm, five_fr Kw9.out.1 (Nat.le_refl _)⟩
    case inr.inr.inl =>
      have hb := bne_iff_ne.2 h
      have HE := Lib.hid (HBD2.out (fun hh => by omega))
      have cc0 : w9.cell? ⟨w.heap.size, 0, none⟩ = some (.string ⟨#[]⟩) := (cellAt (HZR.out w9 Kw9.out.2) 0).trans rfl
      have ff0 : w9.frozen? ⟨w.heap.size, 0, none⟩ = false := freeAt (HZR.out w9 Kw9.out.2) 0
      have cc1 : w9.cell? ⟨w.heap.size, 1, none⟩ = some (.string ⟨#[]⟩) := (cellAt (HZR.out w9 Kw9.out.2) 1).trans rfl
      have ff1 : w9.frozen? ⟨w.heap.size, 1, none⟩ = false := freeAt (HZR.out w9 Kw9.out.2) 1
      have cc2 : w9.cell? ⟨w.heap.size, 2, none⟩ = some (.int .i64 0) := (cellAt (HZR.out w9 Kw9.out.2) 2).trans rfl
      have ff2 : w9.frozen? ⟨w.heap.size, 2, none⟩ = false := freeAt (HZR.out w9 Kw9.out.2) 2
      have cc3 : w9.cell? ⟨w.heap.size, 3, none⟩ = some (.int .i64 0) := (cellAt (HZR.out w9 Kw9.out.2) 3).trans rfl
      have ff3 : w9.frozen? ⟨w.heap.size, 3, none⟩ = false := freeAt (HZR.out w9 Kw9.out.2) 3
      have cc4 : w9.cell? ⟨w.heap.size, 4, none⟩ = some (.int .u8 0) := (cellAt (HZR.out w9 Kw9.out.2) 4).trans rfl
      have ff4 : w9.frozen? ⟨w.heap.size, 4, none⟩ = false := freeAt (HZR.out w9 Kw9.out.2) 4
      clear h HBD2 HGD2 HOF HSM HX8 HX10 HJN hsd
      go_wp2_with fail
      exact bodyPost_ret (v := .tuple #[noV, .int .i64 130]) (results_rec rfl _ _ w.heap.size _ (.int .i64 130) rfl rfl rfl (five_set (HZR.out w9 Kw9.out.2))) rfl ⟨HE.out.symm, five_fr Kw9.out.1 (Nat.le_refl _)⟩
    case inr.inr.inr =>
    have H10 := Lib.hid (HSM.out _ Kw9.out.1)
    go_wp2_with fail
    refine H10.out.mono ?_
    rintro e w10 ⟨rfl, hF⟩
    have Kw10 := Lib.hid (⟨Kw9.out.1.trans hF (fun _ _ e => e), Kw9.out.2.trans hF (fun _ _ e => e)⟩ : Fr (fun _ => False) w w10 ∧ Fr (fun _ => False) (w.alloc noRec) w10)
    clear hF H10
    rcases (show u ≠ t ∨ (u = t ∧ 262144 < z) ∨ (u = t ∧ z ≤ 262144) by omega) with h | ⟨rfl, h⟩ | ⟨rfl, h⟩
    case inl =>
      have hb : ((u : Int) != (t : Int)) = true := bne_iff_ne.2 (by omega)
      have HE := Lib.hid (HBD2.out (fun hh => h hh.2.2.2.1))
      have cc0 : w10.cell? ⟨w.heap.size, 0, none⟩ = some (.string ⟨#[]⟩) := (cellAt (HZR.out w10 Kw10.out.2) 0).trans rfl
      have ff0 : w10.frozen? ⟨w.heap.size, 0, none⟩ = false := freeAt (HZR.out w10 Kw10.out.2) 0
      have cc1 : w10.cell? ⟨w.heap.size, 1, none⟩ = some (.string ⟨#[]⟩) := (cellAt (HZR.out w10 Kw10.out.2) 1).trans rfl
      have ff1 : w10.frozen? ⟨w.heap.size, 1, none⟩ = false := freeAt (HZR.out w10 Kw10.out.2) 1
      have cc2 : w10.cell? ⟨w.heap.size, 2, none⟩ = some (.int .i64 0) := (cellAt (HZR.out w10 Kw10.out.2) 2).trans rfl
      have ff2 : w10.frozen? ⟨w.heap.size, 2, none⟩ = false := freeAt (HZR.out w10 Kw10.out.2) 2
      have cc3 : w10.cell? ⟨w.heap.size, 3, none⟩ = some (.int .i64 0) := (cellAt (HZR.out w10 Kw10.out.2) 3).trans rfl
      have ff3 : w10.frozen? ⟨w.heap.size, 3, none⟩ = false := freeAt (HZR.out w10 Kw10.out.2) 3
      have cc4 : w10.cell? ⟨w.heap.size, 4, none⟩ = some (.int .u8 0) := (cellAt (HZR.out w10 Kw10.out.2) 4).trans rfl
      have ff4 : w10.frozen? ⟨w.heap.size, 4, none⟩ = false := freeAt (HZR.out w10 Kw10.out.2) 4
      clear h HBD2 HGD2 HOF HSM HX8 HX10 HJN hsd
      go_wp2_with fail
      exact bodyPost_ret (v := .tuple #[noV, .int .i64 130]) (results_rec rfl _ _ w.heap.size _ (.int .i64 130) rfl rfl rfl (five_set (HZR.out w10 Kw10.out.2))) rfl ⟨HE.out.symm, five_fr Kw10.out.1 (Nat.le_refl _)⟩
    case inr.inl =>
      have hb : decide ((262144 : Int) < (z : Int)) = true := decide_eq_true (by omega)
      have hb2 : decide (262144 < z) = true := decide_eq_true h
      have HE := Lib.hid (HBD2.out (fun hh => by omega))
      have cc0 : w10.cell? ⟨w.heap.size, 0, none⟩ = some (.string ⟨#[]⟩) := (cellAt (HZR.out w10 Kw10.out.2) 0).trans rfl
      have ff0 : w10.frozen? ⟨w.heap.size, 0, none⟩ = false := freeAt (HZR.out w10 Kw10.out.2) 0
      have cc1 : w10.cell? ⟨w.heap.size, 1, none⟩ = some (.string ⟨#[]⟩) := (cellAt (HZR.out w10 Kw10.out.2) 1).trans rfl
      have ff1 : w10.frozen? ⟨w.heap.size, 1, none⟩ = false := freeAt (HZR.out w10 Kw10.out.2) 1
      have cc2 : w10.cell? ⟨w.heap.size, 2, none⟩ = some (.int .i64 0) := (cellAt (HZR.out w10 Kw10.out.2) 2).trans rfl
      have ff2 : w10.frozen? ⟨w.heap.size, 2, none⟩ = false := freeAt (HZR.out w10 Kw10.out.2) 2
      have cc3 : w10.cell? ⟨w.heap.size, 3, none⟩ = some (.int .i64 0) := (cellAt (HZR.out w10 Kw10.out.2) 3).trans rfl
      have ff3 : w10.frozen? ⟨w.heap.size, 3, none⟩ = false := freeAt (HZR.out w10 Kw10.out.2) 3
      have cc4 : w10.cell? ⟨w.heap.size, 4, none⟩ = some (.int .u8 0) := (cellAt (HZR.out w10 Kw10.out.2) 4).trans rfl
      have ff4 : w10.frozen? ⟨w.heap.size, 4, none⟩ = false := freeAt (HZR.out w10 Kw10.out.2) 4
      clear h HBD2 HGD2 HOF HSM HX8 HX10 HJN hsd
      go_wp2_with fail
      exact bodyPost_ret (v := .tuple #[noV, .int .i64 130]) (results_rec rfl _ _ w.heap.size _ (.int .i64 130) rfl rfl rfl (five_set (HZR.out w10 Kw10.out.2))) rfl ⟨HE.out.symm, five_fr Kw10.out.1 (Nat.le_refl _)⟩
    case inr.inr =>
    have hb : decide ((262144 : Int) < (z : Int)) = false := decide_eq_false (by omega)
    have hb2 : decide (262144 < z) = false := decide_eq_false (by omega)
    have HZB := Lib.hid h
    clear h
    rcases hsd with ⟨hn1, hn2⟩ | ⟨hn1, hn2, hn3⟩
    case inl =>
      have HE := Lib.hid (HBD2.out (fun hh => hh.2.2.2.2.2 hn2))
      subst hn1
      have cc0 : w10.cell? ⟨w.heap.size, 0, none⟩ = some (.string ⟨#[]⟩) := (cellAt (HZR.out w10 Kw10.out.2) 0).trans rfl
      have ff0 : w10.frozen? ⟨w.heap.size, 0, none⟩ = false := freeAt (HZR.out w10 Kw10.out.2) 0
      have cc1 : w10.cell? ⟨w.heap.size, 1, none⟩ = some (.string ⟨#[]⟩) := (cellAt (HZR.out w10 Kw10.out.2) 1).trans rfl
      have ff1 : w10.frozen? ⟨w.heap.size, 1, none⟩ = false := freeAt (HZR.out w10 Kw10.out.2) 1
      have cc2 : w10.cell? ⟨w.heap.size, 2, none⟩ = some (.int .i64 0) := (cellAt (HZR.out w10 Kw10.out.2) 2).trans rfl
      have ff2 : w10.frozen? ⟨w.heap.size, 2, none⟩ = false := freeAt (HZR.out w10 Kw10.out.2) 2
      have cc3 : w10.cell? ⟨w.heap.size, 3, none⟩ = some (.int .i64 0) := (cellAt (HZR.out w10 Kw10.out.2) 3).trans rfl
      have ff3 : w10.frozen? ⟨w.heap.size, 3, none⟩ = false := freeAt (HZR.out w10 Kw10.out.2) 3
      have cc4 : w10.cell? ⟨w.heap.size, 4, none⟩ = some (.int .u8 0) := (cellAt (HZR.out w10 Kw10.out.2) 4).trans rfl
      have ff4 : w10.frozen? ⟨w.heap.size, 4, none⟩ = false := freeAt (HZR.out w10 Kw10.out.2) 4
      clear hn2 HBD2 HGD2 HOF HSM HX8 HX10 HJN
      go_wp2_with fail
      exact bodyPost_ret (v := .tuple #[noV, .int .i64 130]) (results_rec rfl _ _ w.heap.size _ (.int .i64 130) rfl rfl rfl (five_set (HZR.out w10 Kw10.out.2))) rfl ⟨HE.out.symm, five_fr Kw10.out.1 (Nat.le_refl _)⟩
    case inr =>
    have HE := Lib.hid (HGD2.out ⟨by trivial, by trivial, by trivial, by trivial, HZB.out, hn3⟩)
    clear hn3 HBD2 HGD2 HSM
    have H11 := Lib.hid (HOF.out _ Kw10.out.1 10 345 155 rfl)
    go_wp2_with fail
    refine H11.out.mono ?_
    rintro e w11 ⟨rfl, hF⟩
    have Kw11 := Lib.hid (⟨Kw10.out.1.trans hF (fun _ _ e => e), Kw10.out.2.trans hF (fun _ _ e => e)⟩ : Fr (fun _ => False) w w11 ∧ Fr (fun _ => False) (w.alloc noRec) w11)
    clear hF H11
    have H12 := Lib.hid (HX10.out _ Kw11.out.1)
    go_wp2_with fail
    refine H12.out.mono ?_
    rintro e w12 ⟨rfl, hF⟩
    have Kw12 := Lib.hid (⟨Kw11.out.1.trans hF (fun _ _ e => e), Kw11.out.2.trans hF (fun _ _ e => e)⟩ : Fr (fun _ => False) w w12 ∧ Fr (fun _ => False) (w.alloc noRec) w12)
    clear hF H12
    have H13 := Lib.hid (HJN.out w12)
    go_wp2_with fail
    refine H13.out.mono ?_
    rintro e w' ⟨rfl, rfl⟩
    clear H13 HJN
    have H14 := Lib.hid (HOF.out _ Kw12.out.1 8 157 100 rfl)
    go_wp2_with fail
    refine H14.out.mono ?_
    rintro e w13 ⟨rfl, hF⟩
    have Kw13 := Lib.hid (⟨Kw12.out.1.trans hF (fun _ _ e => e), Kw12.out.2.trans hF (fun _ _ e => e)⟩ : Fr (fun _ => False) w w13 ∧ Fr (fun _ => False) (w.alloc noRec) w13)
    clear hF H14
    have H15 := Lib.hid (HX8.out _ Kw13.out.1)
    go_wp2_with fail
    refine H15.out.mono ?_
    rintro e w14 ⟨rfl, hF⟩
    have Kw14 := Lib.hid (⟨Kw13.out.1.trans hF (fun _ _ e => e), Kw13.out.2.trans hF (fun _ _ e => e)⟩ : Fr (fun _ => False) w w14 ∧ Fr (fun _ => False) (w.alloc noRec) w14)
    clear hF H15
    have hmask := mask12 m hmB'
    obtain ⟨mm, hmm⟩ : ∃ v : Nat, v = m % 4096 := ⟨_, rfl⟩
    rw [← hmm] at hmask
    have HMM := Lib.hid hmm
    clear hmm
    have H16 := Lib.hid (HOF.out _ Kw14.out.1 7 156 1 rfl)
    go_wp2_with fail
    refine H16.out.mono ?_
    rintro e w15 ⟨rfl, hF⟩
    have Kw15 := Lib.hid (⟨Kw14.out.1.trans hF (fun _ _ e => e), Kw14.out.2.trans hF (fun _ _ e => e)⟩ : Fr (fun _ => False) w w15 ∧ Fr (fun _ => False) (w.alloc noRec) w15)
    clear hF H16
    have hx : ∃ x, b[156]? = some x := ⟨b[156]'(by rw [HB.out]; decide), List.getElem?_eq_getElem _⟩
    obtain ⟨x, hx⟩ := hx
    obtain ⟨blk2, off2, eA, -, hcell⟩ := (HR.out.1.still Kw15.out.1 (Nat.le_refl _)) (by intro e; rw [e] at hx; cases hx)
    cases eA
    have hcx := hcell 156 x hx
    have HXX := Lib.hid hx
    have HKD := Lib.hid (fun (wx : World) => pkind wx x)
    obtain ⟨xn, hxn⟩ : ∃ v : Int, v = (x.toNat : Int) := ⟨_, rfl⟩
    obtain ⟨kk, hkk⟩ : ∃ v : Int, v = ((kindV x).toNat : Int) := ⟨_, rfl⟩
    rw [← hxn] at hcx HKD
    rw [← hkk] at HKD
    have HKK := Lib.hid hkk
    have HV := Lib.hid (show V = tup (.agg #[.string jn, .string lk, .int .i64 (mm : Int), .int .i64 (z : Int), .int .u8 kk]) 0 from by
      rw [HE.out]
      have h1 : nameV b = joinV (textL (fld b 345 155)) (textL (fld b 0 100)) := rfl
      unfold headOf
      rw [h1, HN.out.2.1, HN.out.2.2.2, HMM.out, HKK.out, HD.out.1, HD.out.2.2.1, List.getD_eq_getElem?_getD, HXX.out]
      rfl)
    have H17 := Lib.hid (HKD.out w15)
    clear hcell hx hxn hkk HKD HE
    go_wp2_with fail
    refine H17.out.mono ?_
    rintro e w' ⟨rfl, rfl⟩
    have cc0 : w15.cell? ⟨w.heap.size, 0, none⟩ = some (.string ⟨#[]⟩) := (cellAt (HZR.out w15 Kw15.out.2) 0).trans rfl
    have ff0 : w15.frozen? ⟨w.heap.size, 0, none⟩ = false := freeAt (HZR.out w15 Kw15.out.2) 0
    have cc1 : w15.cell? ⟨w.heap.size, 1, none⟩ = some (.string ⟨#[]⟩) := (cellAt (HZR.out w15 Kw15.out.2) 1).trans rfl
    have ff1 : w15.frozen? ⟨w.heap.size, 1, none⟩ = false := freeAt (HZR.out w15 Kw15.out.2) 1
    have cc2 : w15.cell? ⟨w.heap.size, 2, none⟩ = some (.int .i64 0) := (cellAt (HZR.out w15 Kw15.out.2) 2).trans rfl
    have ff2 : w15.frozen? ⟨w.heap.size, 2, none⟩ = false := freeAt (HZR.out w15 Kw15.out.2) 2
    have cc3 : w15.cell? ⟨w.heap.size, 3, none⟩ = some (.int .i64 0) := (cellAt (HZR.out w15 Kw15.out.2) 3).trans rfl
    have ff3 : w15.frozen? ⟨w.heap.size, 3, none⟩ = false := freeAt (HZR.out w15 Kw15.out.2) 3
    have cc4 : w15.cell? ⟨w.heap.size, 4, none⟩ = some (.int .u8 0) := (cellAt (HZR.out w15 Kw15.out.2) 4).trans rfl
    have ff4 : w15.frozen? ⟨w.heap.size, 4, none⟩ = false := freeAt (HZR.out w15 Kw15.out.2) 4
    clear H17 HOF HX8 HX10 HX0
    go_wp2_with fail
    exact bodyPost_ret (v := .tuple #[.agg #[.string jn, .string lk, .int .i64 (mm : Int), .int .i64 (z : Int), .int .u8 kk], .int .i64 0]) (results_rec rfl _ _ w.heap.size _ (.int .i64 0) rfl rfl rfl (five_set (HZR.out w15 Kw15.out.2))) rfl ⟨HV.out.symm, five_fr Kw15.out.1 (Nat.le_refl _)⟩
end Go.Proofs.YtgimiggffpokpaaGreatDoor.he
