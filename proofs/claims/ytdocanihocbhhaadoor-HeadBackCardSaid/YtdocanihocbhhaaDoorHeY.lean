/-
  The document's Print where it prints; the document's Print, whole.
-/
import Derived.Test.YtdocanihocbhhaaDoorHeU
namespace Go.Proofs.YtdocanihocbhhaaDoor.he
set_option maxRecDepth 100000
open Go.RowKit Go.Maps
set_option maxRecDepth 100000

/-- The first k pieces of a header are printed. -/
def PQ (w0 w : World) (A : Option Addr) (name link pre : Bts) (mode size : Nat) (kind : UInt8) (k : Nat) : Prop := PZ w0 w A (zN name link pre mode size kind k)
section
variable {w0 w w' : World} {A : Option Addr} {name link pre : Bts} {mode size : Nat} {kind : UInt8} {k : Nat}
theorem PQ.still (h : PQ w0 w A name link pre mode size kind k) (hF : Fr (fun _ => False) w w') : PQ w0 w' A name link pre mode size kind k := PZ.still h hF
theorem PQ.fr (h : PQ w0 w A name link pre mode size kind k) : Fr (fun _ => False) w0 w := PZ.fr h
theorem PQ.step (h : PQ w0 w A name link pre mode size kind k) {a : Nat} {s : ByteArray} (hp : pcN name link pre mode size kind k = (a, s.data.toList)) (h1 : (zN name link pre mode size kind k).length ≤ a) (h2 : a + s.size ≤ 512) :
    Calls Tryd.prog 37 #[.slice A 512 512, .int .i64 (a : Int), .string s] w fun e w' => e = .returned (.tuple #[]) ∧ PQ w0 w' A name link pre mode size kind (k + 1) := by
  refine (PZ.put h a s h1 h2).mono ?_
  rintro e w1 ⟨he, hz⟩
  refine ⟨he, ?_⟩
  have e2 : zN name link pre mode size kind (k + 1) = nx (zN name link pre mode size kind k) a s.data.toList := by
    show nx _ _ _ = _
    rw [hp]
  show PZ w0 w1 A (zN name link pre mode size kind (k + 1))
  rw [e2]
  exact hz
theorem PQ.kind_ (h : PQ w0 w A name link pre mode size kind 6) (h1 : (zN name link pre mode size kind 6).length ≤ 156) : ∃ g, A = some ⟨g, 0, none⟩ ∧ (∃ v, w.cell? ⟨g, 156, none⟩ = some v) ∧ w.frozen? ⟨g, 156, none⟩ = false ∧ PQ w0 (w.setCell ⟨g, 156, none⟩ (.int .u8 (kind.toNat : Int))) A name link pre mode size kind 7 := PZ.set h h1 (by decide) kind
theorem PQ.done (h : PQ w0 w A name link pre mode size kind 10) (h1 : name.length ≤ 100) (h2 : link.length ≤ 100) (h3 : pre.length ≤ 155) : Own w w0.heap.size (.slice A 512 512) (hdrV name link pre mode size kind (List.replicate 8 0)) := by
  have := PZ.own h
  rw [zN_all h1 h2 h3] at this
  exact this
end
set_option maxHeartbeats 16000000 in
theorem rprint_yes (w : World) (h : Hd) (hw : WfH h) (hm : mayH h) : Calls Tryd.prog 21 #[hdV h] w (PrA w (printV h)) := by
  obtain ⟨q0, hq0⟩ := Option.isSome_iff_exists.1 hm.1
  have hV : printV h = (printB h q0, 0) := print_good hq0 hm
  obtain ⟨s1, s2, s3, -⟩ := parted_some hq0
  obtain ⟨-, m2, m3, m4, m5, m6, m7, m8, m9⟩ := hm
  have hpv : partV h.name = (q0.1, q0.2, true) := by unfold partV; rw [hq0]
  obtain ⟨nm, hnm⟩ : ∃ s, s = tx h.name := ⟨_, rfl⟩
  obtain ⟨lk, hlk⟩ : ∃ s, s = tx h.link := ⟨_, rfl⟩
  obtain ⟨p, hp⟩ : ∃ v, v = tx q0.1 := ⟨_, rfl⟩
  obtain ⟨q, hq⟩ : ∃ v, v = tx q0.2 := ⟨_, rfl⟩
  obtain ⟨mN, hmN⟩ : ∃ n : Nat, n = h.mode.toNat := ⟨_, rfl⟩
  obtain ⟨sN, hsN⟩ : ∃ n : Nat, n = h.size.toNat := ⟨_, rfl⟩
  obtain ⟨kN, hkN⟩ : ∃ n : Nat, n = h.kind.toNat := ⟨_, rfl⟩
  have hk0 : ((kN : Int) == 0) = false := beq_eq_false_iff_ne.2 (fun e => m9 (UInt8.toNat_inj.1 (by rw [← hkN]; show kN = 0; omega)))
  have e1 : nm.data.toList = h.name := by rw [hnm]
  have e2 : lk.data.toList = h.link := by rw [hlk]
  have e3 : nm.size = h.name.length := by rw [← e1, Array.length_toList]; rfl
  have e4 : lk.size = h.link.length := by rw [← e2, Array.length_toList]; rfl
  have e5 : p.data.toList = q0.1 := by rw [hp]
  have e6 : q.data.toList = q0.2 := by rw [hq]
  have e7 : p.size = q0.1.length := by rw [← e5, Array.length_toList]; rfl
  have e8 : q.size = q0.2.length := by rw [← e6, Array.length_toList]; rfl
  have hv0 : hdV h = .agg #[.string nm, .string lk, .int .i64 (mN : Int), .int .i64 (sN : Int), .int .u8 (kN : Int)] := by
    rw [hnm, hlk, hkN, show ((mN : Nat) : Int) = h.mode by omega, show ((sN : Nat) : Int) = h.size by omega]
  have HPT := Lib.hid (fun (wx : World) => rparted wx nm (by have := hw.name; omega))
  have HZ1 := Lib.hid (fun (wx : World) => rzero wx nm (by have := hw.name; omega))
  have HZ2 := Lib.hid (fun (wx : World) => rzero wx lk (by have := hw.link; omega))
  rw [e1, hpv] at HPT
  rw [e1, decide_eq_false m3] at HZ1
  rw [e2, decide_eq_false m4] at HZ2
  rw [show (tx (q0.1, q0.2, true).1) = p from hp.symm, show (tx (q0.1, q0.2, true).2.1) = q from hq.symm, show (q0.1, q0.2, true).2.2 = true from rfl] at HPT
  have HF0 := Lib.hid (show Fr (fun _ => False) w (w.alloc (rec5 (.string nm) (.string lk) (.int .i64 (mN : Int)) (.int .i64 (sN : Int)) (.int .u8 (kN : Int)))) from (Fr.refl _ w).alloc _)
  have hmB : mN ≤ 4095 := by omega
  have hsB : sN ≤ 262144 := by omega
  have hl2 : lk.size ≤ 100 := by omega
  have HLN := Lib.hid (zN_lens (name := q0.2) (link := h.link) (pre := q0.1) (mode := mN) (size := sN) (kind := h.kind) s2 m2)
  have HB0 := Lib.hid (⟨s2, s3, m2⟩ : _ ∧ _ ∧ _)
  have HDT := Lib.hid (⟨e5, e6, e2, e7, e8, e4⟩ : _ ∧ _ ∧ _ ∧ _ ∧ _ ∧ _)
  have HMS := Lib.hid (⟨hmN, hsN, hkN⟩ : _ ∧ _ ∧ _)
  have HV := Lib.hid hV
  have HO7m := Lib.hid (fun (wx : World) => (show Calls Tryd.prog 38 #[.int .i64 (mN : Int), .int .i64 7] wx fun e w' => e = .returned (.string (tx (octL 7 mN))) ∧ Fr (fun _ => False) wx w' from roctalN wx mN 7 (by omega) (by decide)))
  have HO7z := Lib.hid (fun (wx : World) => (show Calls Tryd.prog 38 #[.int .i64 0, .int .i64 7] wx fun e w' => e = .returned (.string (tx (octL 7 0))) ∧ Fr (fun _ => False) wx w' from roctalN wx 0 7 (by decide) (by decide)))
  have HO11s := Lib.hid (fun (wx : World) => (show Calls Tryd.prog 38 #[.int .i64 (sN : Int), .int .i64 11] wx fun e w' => e = .returned (.string (tx (octL 11 sN))) ∧ Fr (fun _ => False) wx w' from roctalN wx sN 11 (by omega) (by decide)))
  have HO11z := Lib.hid (fun (wx : World) => (show Calls Tryd.prog 38 #[.int .i64 0, .int .i64 11] wx fun e w' => e = .returned (.string (tx (octL 11 0))) ∧ Fr (fun _ => False) wx w' from roctalN wx 0 11 (by decide) (by decide)))
  have HSZ := Lib.hid (show (tx (octL 7 mN)).size = 7 ∧ (tx (octL 7 0)).size = 7 ∧ (tx (octL 11 sN)).size = 11 ∧ (tx (octL 11 0)).size = 11 from ⟨octL_length 7 mN, octL_length 7 0, octL_length 11 sN, octL_length 11 0⟩)
  obtain ⟨o1, ho1⟩ : ∃ v, v = tx (octL 7 mN) := ⟨_, rfl⟩
  obtain ⟨o2, ho2⟩ : ∃ v, v = tx (octL 7 0) := ⟨_, rfl⟩
  obtain ⟨o3, ho3⟩ : ∃ v, v = tx (octL 11 sN) := ⟨_, rfl⟩
  obtain ⟨o4, ho4⟩ : ∃ v, v = tx (octL 11 0) := ⟨_, rfl⟩
  have HOD := Lib.hid (show o1.data.toList = octL 7 mN ∧ o2.data.toList = octL 7 0 ∧ o3.data.toList = octL 11 sN ∧ o4.data.toList = octL 11 0 from ⟨by rw [ho1], by rw [ho2], by rw [ho3], by rw [ho4]⟩)
  rw [← ho1] at HO7m HSZ
  rw [← ho2] at HO7z HSZ
  rw [← ho3] at HO11s HSZ
  rw [← ho4] at HO11z HSZ
  have hl : ¬ (100 : Int) < (lk.size : Int) := by omega
  have g1 : ¬ ((mN : Int) < 0) := by omega
  have g2 : ¬ ((4095 : Int) < (mN : Int)) := by omega
  have g3 : ¬ ((sN : Int) < 0) := by omega
  have g4 : decide ((262144 : Int) < (sN : Int)) = false := decide_eq_false (by omega)
  have g5 : decide (262144 < sN) = false := decide_eq_false (by omega)
  have HL2 := Lib.hid hl2
  rw [hv0]
  obtain ⟨V, hVV⟩ : ∃ V, V = printV h := ⟨_, rfl⟩
  rw [← hVV]
  have HVV := Lib.hid hVV
  clear hVV hv0 hV hw s1 s2 s3 m2 m3 m4 m5 m6 m7 m8 m9 hpv hnm hlk hp hq hmN hsN hkN e1 e2 e3 e4 e5 e6 e7 e8 hmB hsB hl2 ho1 ho2 ho3 ho4 hq0
  go_enter Tryd.func21, Tryd.ntmps21
  go_wp2_with fail
  refine (HPT.out _).mono ?_
  rintro e w1 ⟨rfl, hC1⟩
  obtain ⟨c0, c1, c2, c3, c4⟩ := rec_cells hC1.fr
  have HF1 := Lib.hid (HF0.out.trans hC1.fr (fun _ _ e => e))
  have HR1 := Lib.hid hC1.fr
  clear hC1 HPT
  go_wp2_with fail
  refine (HZ1.out _).mono ?_
  rintro e w2 ⟨rfl, hF2⟩
  clear c0 c1 c2 c3 c4
  obtain ⟨c0, c1, c2, c3, c4⟩ := rec_cells (HR1.out.trans hF2 (fun _ _ e => e))
  have HF2 := Lib.hid (HF1.out.trans hF2 (fun _ _ e => e))
  have HR2 := Lib.hid (HR1.out.trans hF2 (fun _ _ e => e))
  clear hF2 HZ1 HR1 HF1
  go_wp2_with fail
  refine (HZ2.out _).mono ?_
  rintro e w3 ⟨rfl, hF3⟩
  clear c0 c1 c2 c3 c4
  obtain ⟨c0, c1, c2, c3, c4⟩ := rec_cells (HR2.out.trans hF3 (fun _ _ e => e))
  have HF3 := Lib.hid (HF2.out.trans hF3 (fun _ _ e => e))
  have HR3 := Lib.hid (HR2.out.trans hF3 (fun _ _ e => e))
  clear hF3 HZ2 HR2 HF2
  have hmk : (Instr.makeSlice 22 (.int .i64 512) (.int .i64 512)).run Tryd.prog w3 = .ok (.slice (some ⟨w3.heap.size, 0, none⟩) 512 512) (w3.alloc (.cells (zb 512) 5)) := run_make_bytes 512 (by decide) w3
  have HQ0 := Lib.hid (show PQ w3 (w3.alloc (.cells (zb 512) 5)) (some ⟨w3.heap.size, 0, none⟩) q0.2 h.link q0.1 mN sN h.kind 0 from pz_new w3)
  obtain ⟨x0, hx0⟩ : ∃ v, v = w3.alloc (.cells (zb 512) 5) := ⟨_, rfl⟩
  rw [← hx0] at hmk HQ0
  clear hx0
  go_wp2_with fail
  clear hmk
  have HP := Lib.hid (HQ0.out.step (a := 0) (s := q) (by rw [HDT.out.2.1]; rfl) (Nat.le_refl _) (by have := HSZ.out; have := HDT.out; have := HB0.out; have := HL2.out; omega))
  refine HP.out.mono ?_
  rintro e x1 ⟨rfl, hg⟩
  have HQ1 := Lib.hid (show PQ w3 x1 (some ⟨w3.heap.size, 0, none⟩) q0.2 h.link q0.1 mN sN h.kind 1 from hg)
  clear hg HP HQ0
  clear c0 c1 c2 c3 c4
  obtain ⟨c0, c1, c2, c3, c4⟩ := rec_cells (HR3.out.trans HQ1.out.fr (fun _ _ e => e))
  go_wp2_with fail
  refine (HO7m.out _).mono ?_
  rintro e u1 ⟨rfl, hF⟩
  have HQn := Lib.hid (HQ1.out.still hF)
  clear hF HQ1
  have HQ1 := HQn
  clear HQn
  clear c0 c1 c2 c3 c4
  obtain ⟨c0, c1, c2, c3, c4⟩ := rec_cells (HR3.out.trans HQ1.out.fr (fun _ _ e => e))
  go_wp2_with fail
  have HP := Lib.hid (HQ1.out.step (a := 100) (s := o1) (by rw [HOD.out.1]; rfl) (by have := HLN.out; have := HB0.out; have := HDT.out; omega) (by have := HSZ.out; have := HDT.out; have := HB0.out; have := HL2.out; omega))
  refine HP.out.mono ?_
  rintro e x2 ⟨rfl, hg⟩
  have HQ2 := Lib.hid (show PQ w3 x2 (some ⟨w3.heap.size, 0, none⟩) q0.2 h.link q0.1 mN sN h.kind 2 from hg)
  clear hg HP HQ1
  clear c0 c1 c2 c3 c4
  obtain ⟨c0, c1, c2, c3, c4⟩ := rec_cells (HR3.out.trans HQ2.out.fr (fun _ _ e => e))
  go_wp2_with fail
  refine (HO7z.out _).mono ?_
  rintro e u2 ⟨rfl, hF⟩
  have HQn := Lib.hid (HQ2.out.still hF)
  clear hF HQ2
  have HQ2 := HQn
  clear HQn
  clear c0 c1 c2 c3 c4
  obtain ⟨c0, c1, c2, c3, c4⟩ := rec_cells (HR3.out.trans HQ2.out.fr (fun _ _ e => e))
  go_wp2_with fail
  have HP := Lib.hid (HQ2.out.step (a := 108) (s := o2) (by rw [HOD.out.2.1]; rfl) (by have := HLN.out; have := HB0.out; have := HDT.out; omega) (by have := HSZ.out; have := HDT.out; have := HB0.out; have := HL2.out; omega))
  refine HP.out.mono ?_
  rintro e x3 ⟨rfl, hg⟩
  have HQ3 := Lib.hid (show PQ w3 x3 (some ⟨w3.heap.size, 0, none⟩) q0.2 h.link q0.1 mN sN h.kind 3 from hg)
  clear hg HP HQ2
  clear c0 c1 c2 c3 c4
  obtain ⟨c0, c1, c2, c3, c4⟩ := rec_cells (HR3.out.trans HQ3.out.fr (fun _ _ e => e))
  go_wp2_with fail
  refine (HO7z.out _).mono ?_
  rintro e u3 ⟨rfl, hF⟩
  have HQn := Lib.hid (HQ3.out.still hF)
  clear hF HQ3
  have HQ3 := HQn
  clear HQn
  clear c0 c1 c2 c3 c4
  obtain ⟨c0, c1, c2, c3, c4⟩ := rec_cells (HR3.out.trans HQ3.out.fr (fun _ _ e => e))
  go_wp2_with fail
  have HP := Lib.hid (HQ3.out.step (a := 116) (s := o2) (by rw [HOD.out.2.1]; rfl) (by have := HLN.out; have := HB0.out; have := HDT.out; omega) (by have := HSZ.out; have := HDT.out; have := HB0.out; have := HL2.out; omega))
  refine HP.out.mono ?_
  rintro e x4 ⟨rfl, hg⟩
  have HQ4 := Lib.hid (show PQ w3 x4 (some ⟨w3.heap.size, 0, none⟩) q0.2 h.link q0.1 mN sN h.kind 4 from hg)
  clear hg HP HQ3
  clear c0 c1 c2 c3 c4
  obtain ⟨c0, c1, c2, c3, c4⟩ := rec_cells (HR3.out.trans HQ4.out.fr (fun _ _ e => e))
  go_wp2_with fail
  refine (HO11s.out _).mono ?_
  rintro e u4 ⟨rfl, hF⟩
  have HQn := Lib.hid (HQ4.out.still hF)
  clear hF HQ4
  have HQ4 := HQn
  clear HQn
  clear c0 c1 c2 c3 c4
  obtain ⟨c0, c1, c2, c3, c4⟩ := rec_cells (HR3.out.trans HQ4.out.fr (fun _ _ e => e))
  go_wp2_with fail
  have HP := Lib.hid (HQ4.out.step (a := 124) (s := o3) (by rw [HOD.out.2.2.1]; rfl) (by have := HLN.out; have := HB0.out; have := HDT.out; omega) (by have := HSZ.out; have := HDT.out; have := HB0.out; have := HL2.out; omega))
  refine HP.out.mono ?_
  rintro e x5 ⟨rfl, hg⟩
  have HQ5 := Lib.hid (show PQ w3 x5 (some ⟨w3.heap.size, 0, none⟩) q0.2 h.link q0.1 mN sN h.kind 5 from hg)
  clear hg HP HQ4
  clear c0 c1 c2 c3 c4
  obtain ⟨c0, c1, c2, c3, c4⟩ := rec_cells (HR3.out.trans HQ5.out.fr (fun _ _ e => e))
  go_wp2_with fail
  refine (HO11z.out _).mono ?_
  rintro e u5 ⟨rfl, hF⟩
  have HQn := Lib.hid (HQ5.out.still hF)
  clear hF HQ5
  have HQ5 := HQn
  clear HQn
  clear c0 c1 c2 c3 c4
  obtain ⟨c0, c1, c2, c3, c4⟩ := rec_cells (HR3.out.trans HQ5.out.fr (fun _ _ e => e))
  go_wp2_with fail
  have HP := Lib.hid (HQ5.out.step (a := 136) (s := o4) (by rw [HOD.out.2.2.2]; rfl) (by have := HLN.out; have := HB0.out; have := HDT.out; omega) (by have := HSZ.out; have := HDT.out; have := HB0.out; have := HL2.out; omega))
  refine HP.out.mono ?_
  rintro e x6 ⟨rfl, hg⟩
  have HQ6 := Lib.hid (show PQ w3 x6 (some ⟨w3.heap.size, 0, none⟩) q0.2 h.link q0.1 mN sN h.kind 6 from hg)
  clear hg HP HQ5
  clear c0 c1 c2 c3 c4
  obtain ⟨c0, c1, c2, c3, c4⟩ := rec_cells (HR3.out.trans HQ6.out.fr (fun _ _ e => e))
  obtain ⟨gg, eg, ⟨vv, hvv⟩, hff, hset⟩ := HQ6.out.kind_ (by have := HLN.out; omega)
  cases eg
  rw [← HMS.out.2.2] at hset
  have HQ7 := Lib.hid hset
  clear hset HQ6
  obtain ⟨d0, d1, d2, d3, d4⟩ := rec_cells (HR3.out.trans HQ7.out.fr (fun _ _ e => e))
  go_wp2_with fail
  have HP := Lib.hid (HQ7.out.step (a := 157) (s := lk) (by rw [HDT.out.2.2.1]; rfl) (by have := HLN.out; have := HB0.out; have := HDT.out; omega) (by have := HSZ.out; have := HDT.out; have := HB0.out; have := HL2.out; omega))
  refine HP.out.mono ?_
  rintro e x8 ⟨rfl, hg⟩
  have HQ8 := Lib.hid (show PQ w3 x8 (some ⟨w3.heap.size, 0, none⟩) q0.2 h.link q0.1 mN sN h.kind 8 from hg)
  clear hg HP HQ7
  clear c0 c1 c2 c3 c4 d0 d1 d2 d3 d4 hvv hff
  obtain ⟨c0, c1, c2, c3, c4⟩ := rec_cells (HR3.out.trans HQ8.out.fr (fun _ _ e => e))
  go_wp2_with fail
  have HP := Lib.hid (HQ8.out.step (a := 257) (s := ⟨#[117, 115, 116, 97, 114, 0, 48, 48]⟩) (by rw [show (⟨#[117, 115, 116, 97, 114, 0, 48, 48]⟩ : ByteArray).data.toList = ustar from rfl]; rfl) (by have := HLN.out; have := HB0.out; have := HDT.out; omega) (by have := HSZ.out; have := HDT.out; have := HB0.out; have := HL2.out; decide))
  refine HP.out.mono ?_
  rintro e x9 ⟨rfl, hg⟩
  have HQ9 := Lib.hid (show PQ w3 x9 (some ⟨w3.heap.size, 0, none⟩) q0.2 h.link q0.1 mN sN h.kind 9 from hg)
  clear hg HP HQ8
  clear c0 c1 c2 c3 c4
  obtain ⟨c0, c1, c2, c3, c4⟩ := rec_cells (HR3.out.trans HQ9.out.fr (fun _ _ e => e))
  go_wp2_with fail
  have HP := Lib.hid (HQ9.out.step (a := 345) (s := p) (by rw [HDT.out.1]; rfl) (by have := HLN.out; have := HB0.out; have := HDT.out; omega) (by have := HSZ.out; have := HDT.out; have := HB0.out; have := HL2.out; omega))
  refine HP.out.mono ?_
  rintro e x10 ⟨rfl, hg⟩
  have HQ10 := Lib.hid (show PQ w3 x10 (some ⟨w3.heap.size, 0, none⟩) q0.2 h.link q0.1 mN sN h.kind 10 from hg)
  clear hg HP HQ9
  clear c0 c1 c2 c3 c4
  obtain ⟨c0, c1, c2, c3, c4⟩ := rec_cells (HR3.out.trans HQ10.out.fr (fun _ _ e => e))
  have hown := HQ10.out.done HB0.out.1 HB0.out.2.2 HB0.out.2.1
  have hblank : hdrV q0.2 h.link q0.1 mN sN h.kind (List.replicate 8 0) = blankV h q0 := by
    unfold blankV
    rw [HMS.out.1, HMS.out.2.1]
  rw [hblank] at hown
  have hblen : (blankV h q0).length = 512 := hdr_len HB0.out.1 HB0.out.2.2 HB0.out.2.1 (by simp)
  have HOW := Lib.hid hown
  have HFX := Lib.hid HQ10.out.fr
  have HSM := Lib.hid (show Calls Tryd.prog 13 #[.slice (some ⟨w3.heap.size, 0, none⟩) 512 512] x10 fun e w' => e = .returned (.int .i64 (sumV (blankV h q0) : Nat)) ∧ x10 = w' from by
    have h1 := rsum x10 (some ⟨w3.heap.size, 0, none⟩) 512 x10.heap.size (blankV h q0) (Own.rd (by rw [hblen]; exact hown)) (by rw [hblen]; decide)
    rw [hblen] at h1
    exact h1)
  have htl : sumV (blankV h q0) ≤ 255 * 512 := by have := sumF_le (blankV h q0) 0; rw [hblen] at this; exact this
  obtain ⟨tt, htt⟩ : ∃ v, v = sumV (blankV h q0) := ⟨_, rfl⟩
  rw [← htt] at HSM htl
  have HO6 := Lib.hid (show Calls Tryd.prog 38 #[.int .i64 (tt : Int), .int .i64 6] x10 fun e w' => e = .returned (.string (tx (octL 6 tt))) ∧ Fr (fun _ => False) x10 w' from roctalN x10 tt 6 (by omega) (by decide))
  obtain ⟨o6, ho6⟩ : ∃ v, v = tx (octL 6 tt) := ⟨_, rfl⟩
  rw [← ho6] at HO6
  have ho6s : o6.size + 2 ≤ 9223372036854775807 := by rw [ho6]; show (octL 6 tt).toArray.size + 2 ≤ _; rw [List.size_toArray, octL_length]; decide
  have HS8 := Lib.hid (show o6 ++ (⟨#[0, 32]⟩ : ByteArray) = tx (sum8 tt) from by rw [ho6, tx_app, tx_toL, show (⟨#[0, 32]⟩ : ByteArray).toList = [0, 32] from tx_toL [0, 32]]; rfl)
  have HTT := Lib.hid htt
  have HLP := Lib.hid (show (printB h q0).length = 512 from hdr_len HB0.out.1 HB0.out.2.2 HB0.out.2.1 (sum8_len _))
  clear hown hblank hblen htt ho6 HQ10
  go_wp2_with fail
  refine HSM.out.mono ?_
  rintro e w' ⟨rfl, rfl⟩
  go_wp2_with fail
  refine HO6.out.mono ?_
  rintro e x11 ⟨rfl, hF⟩
  have HPE := Lib.hid (print_end (A := some ⟨w3.heap.size, 0, none⟩) HB0.out.1 HB0.out.2.1 HB0.out.2.2 tt HTT.out _ HS8.out (HOW.out.kept hF) (HFX.out.trans hF (fun _ _ e => e)))
  clear hF HO6 c0 c1 c2 c3 c4
  go_wp2_with fail
  refine HPE.out.mono ?_
  rintro e x12 ⟨rfl, ho, hF⟩
  have HEND := Lib.hid (show PrA w V (.returned (.tuple #[.slice (some ⟨w3.heap.size, 0, none⟩) 512 512, .int .i64 0])) x12 from by
    rw [HVV.out, HV.out]
    refine ⟨some ⟨w3.heap.size, 0, none⟩, 512, by rw [HLP.out], ?_, HF3.out.trans hF (fun _ _ e => e)⟩
    rw [HLP.out]
    exact own_base ho HF3.out.size)
  clear ho hF HPE
  go_wp2_with fail
  go_ret2
  exact HEND.out
theorem rprint (w : World) (h : Hd) (hw : WfH h) : Calls Tryd.prog 21 #[hdV h] w (PrA w (printV h)) := by
  by_cases hm : mayH h
  · exact rprint_yes w h hw hm
  · exact rprint_no w h hw hm
end Go.Proofs.YtdocanihocbhhaaDoor.he
