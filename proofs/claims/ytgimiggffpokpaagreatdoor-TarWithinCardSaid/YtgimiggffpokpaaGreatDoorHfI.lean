/-
  The program's number and Print.
-/
import Derived.Test.YtgimiggffpokpaaGreatDoorJE
namespace Go.Proofs.YtgimiggffpokpaaGreatDoor.he
set_option maxRecDepth 100000
open Go.RowKit Go.Maps
set_option maxRecDepth 100000

section
variable {w0 w w' : World} {A : Option Addr} {name link pre : Bts} {mode size : Nat} {kind : UInt8} {k : Nat}
theorem PQ.own (h : PQ w0 w A name link pre mode size kind k) : Own w w0.heap.size (.slice A 512 512) (zN name link pre mode size kind k ++ List.replicate (512 - (zN name link pre mode size kind k).length) 0) := PZ.own h
theorem PQ.pstep (h : PQ w0 w A name link pre mode size kind k) (hT : DT w0) {f a n : Nat} {s : ByteArray} (hf : plL[f]? = some (a, n)) (hp : pcN name link pre mode size kind k = (a, s.data.toList)) (h1 : (zN name link pre mode size kind k).length ≤ a) (h2 : s.size ≤ n) :
    Calls Tryz.prog 59 #[.int .i64 (f : Int), .slice A 512 512, .string s] w fun e w' => e = .returned (.tuple #[]) ∧ PQ w0 w' A name link pre mode size kind (k + 1) := by
  have hs : s.data.toList.length = s.size := Array.length_toList
  have hle := pl_le hf
  have hz : PZ w0 w A (zN name link pre mode size kind k) := h
  refine (pput w0 w (hT.keep h.fr) A _ s f a n hf h.own (PZ.len hz) h.fr h2).mono ?_
  rintro e w' ⟨he, g1, g2⟩
  refine ⟨he, ?_⟩
  have hle2 := hz.le
  rw [← hs, lay_tail h1 (by omega)] at g1
  have e2 : zN name link pre mode size kind (k + 1) = zN name link pre mode size kind k ++ List.replicate (a - (zN name link pre mode size kind k).length) 0 ++ s.data.toList := by
    show nx _ _ _ = _
    rw [hp]
    rfl
  have hzl : (zN name link pre mode size kind (k + 1)).length = a + s.size := by
    rw [e2, List.length_append, List.length_append, List.length_replicate, hs]
    omega
  show PZ w0 w' A (zN name link pre mode size kind (k + 1))
  refine ⟨?_, by omega, g2⟩
  rw [hzl, e2]
  rw [show (zN name link pre mode size kind k).length + (512 - (zN name link pre mode size kind k).length) - a - s.data.toList.length = 512 - (a + s.size) by omega] at g1
  exact g1
set_option maxHeartbeats 2000000 in
theorem PQ.num (h : PQ w0 w A name link pre mode size kind k) (hT : DT w0) {f a n x : Nat} (hf : plL[f]? = some (a, n)) (hn : 2 ≤ n) (hn2 : n ≤ 12) (hp : pcN name link pre mode size kind k = (a, octL (n - 1) x)) (hx : x < 8 ^ (n - 1)) (h1 : (zN name link pre mode size kind k).length ≤ a) :
    Calls Tryz.prog 60 #[.int .i64 (f : Int), .slice A 512 512, .int .i64 (x : Int)] w fun e w' => e = .returned (.tuple #[]) ∧ PQ w0 w' A name link pre mode size kind (k + 1) := by
  have hTw := hT.keep h.fr
  have HZ := Lib.hid (psize w hTw f a n hf)
  have HN := Lib.hid (pnumeral w hTw x (n - 1) (by omega) (by omega) hx)
  have hsz : (tx (octL (n - 1) x)).size = n - 1 := by show (octL (n - 1) x).toArray.size = _; rw [List.size_toArray, octL_length]
  have HP := Lib.hid (fun wx (hF : Fr (fun _ => False) w wx) => (h.still hF).pstep hT (s := tx (octL (n - 1) x)) hf (by rw [hp]) h1 (by omega))
  obtain ⟨m, hm⟩ : ∃ m, m = n - 1 := ⟨_, rfl⟩
  rw [← hm] at HN HP
  have hmi : (n : Int) - 1 = (m : Int) := by omega
  have hmB : m ≤ 11 := by omega
  have hnB : n ≤ 12 := hn2
  have hn0 : 1 ≤ n := by omega
  obtain ⟨S, hS⟩ : ∃ S, S = tx (octL m x) := ⟨_, rfl⟩
  rw [← hS] at HN HP
  clear h hT hTw hf hn hn2 hp hx h1 hsz hm hS
  go_enter Tryz.func60, Tryz.ntmps60
  go_wp2_with fail
  refine HZ.out.mono ?_
  rintro e w' ⟨rfl, rfl⟩
  go_wp2_with fail
  refine HN.out.mono ?_
  rintro e w1 ⟨rfl, hF1⟩
  have H1 := Lib.hid (HP.out w1 hF1)
  clear hF1 HP HN HZ
  go_wp2_with fail
  refine H1.out.mono ?_
  rintro e w2 ⟨rfl, hq⟩
  have HQ := Lib.hid hq
  clear hq H1
  go_wp2_with fail
  exact (show _ ∧ _ from ⟨rfl, .tuple #[], results_none rfl _ _ _, rfl, HQ.out⟩)
end
theorem pprint_end {w0 w : World} (hT : DT w0) {A : Option Addr} {h : Hd} {q : Bts × Bts} (hq2 : q.2.length ≤ 100) (hq1 : q.1.length ≤ 155) (hl : h.link.length ≤ 100) (t : Nat) (ht : t = sumV (blankV h q)) (s : ByteArray) (hs : s = tx (sum8 t)) (ho : Own w w0.heap.size (.slice A 512 512) (blankV h q)) (hF : Fr (fun _ => False) w0 w) :
    Calls Tryz.prog 59 #[.int .i64 6, .slice A 512 512, .string s] w fun e w' => e = .returned (.tuple #[]) ∧ Own w' w0.heap.size (.slice A 512 512) (printB h q) ∧ Fr (fun _ => False) w0 w' := by
  have hlen : (blankV h q).length = 512 := hdr_len hq2 hl hq1 (by simp)
  have h8 : (sum8 t).length = 8 := sum8_len t
  have hss : s.size = 8 := by rw [hs]; show (sum8 t).toArray.size = 8; rw [List.size_toArray, h8]
  have hsl : s.data.toList = sum8 t := by rw [hs]
  have h1 := pput w0 w (hT.keep hF) A (blankV h q) s 6 148 8 rfl ho hlen hF (by omega)
  have h2 : layL (blankV h q) 148 s.data.toList s.size = printB h q := by
    rw [hsl, hss]
    have h3 := lay_mid (P := preH q.2 h.mode.toNat h.size.toNat) (s := List.replicate 8 0) (t := sum8 t) (Q := postH h.kind h.link q.1) (by rw [h8]; rfl)
    rw [preH_len hq2, h8] at h3
    show layL (hdrV _ _ _ _ _ _ _) 148 _ 8 = _
    unfold hdrV
    rw [h3]
    unfold printB hdrV
    rw [ht]
  rw [h2] at h1
  exact h1
theorem okR_may {h : Hd} {nm lk : ByteArray} {md sz : Int} {kn : Nat} (h1 : nm.data.toList = h.name) (h2 : lk.data.toList = h.link) (h3 : md = h.mode) (h4 : sz = h.size) (h5 : kn = h.kind.toNat) : mayH h ↔ ((partV h.name).2.2 = true ∧ okR nm lk md sz kn) := by
  have e4 : lk.size = h.link.length := by rw [← h2, Array.length_toList]; rfl
  have hp : (partV h.name).2.2 = (partedV h.name).isSome := by
    unfold partV
    cases partedV h.name <;> rfl
  have hk : h.kind ≠ 0 ↔ kn ≠ 0 := by
    rw [h5]
    exact ⟨fun e k => e (UInt8.toNat_inj.1 (by rw [k]; rfl)), fun e k => e (by rw [k]; rfl)⟩
  unfold mayH okR
  rw [h1, h2, h3, h4, e4, hp, hk]
  exact ⟨fun ⟨a, b, c, d, r⟩ => ⟨a, c, d, b, r⟩, fun ⟨a, c, d, b, r⟩ => ⟨a, b, c, d, r⟩⟩
set_option maxHeartbeats 16000000 in
theorem pprint (w : World) (hT : DT w) (h : Hd) (hw : WfH h) : Calls Tryz.prog 37 #[hdV h] w (PrA w (printV h)) := by
  obtain ⟨nm, hnm⟩ : ∃ s, s = tx h.name := ⟨_, rfl⟩
  obtain ⟨lk, hlk⟩ : ∃ s, s = tx h.link := ⟨_, rfl⟩
  obtain ⟨md, hmd⟩ : ∃ s, s = h.mode := ⟨_, rfl⟩
  obtain ⟨sz, hsz⟩ : ∃ s, s = h.size := ⟨_, rfl⟩
  obtain ⟨kN, hkN⟩ : ∃ n : Nat, n = h.kind.toNat := ⟨_, rfl⟩
  have e1 : nm.data.toList = h.name := by rw [hnm]
  have e2 : lk.data.toList = h.link := by rw [hlk]
  have e4 : lk.size = h.link.length := by rw [← e2, Array.length_toList]; rfl
  have e3 : nm.size = h.name.length := by rw [← e1, Array.length_toList]; rfl
  have hmay := okR_may e1 e2 hmd hsz hkN
  have hv0 : hdV h = .agg #[.string nm, .string lk, .int .i64 md, .int .i64 sz, .int .u8 (kN : Int)] := by rw [hnm, hlk, hmd, hsz, hkN]
  have HT := Lib.hid hT
  have HF0 := Lib.hid (show Fr (fun _ => False) w (w.alloc (rec5 (.string nm) (.string lk) (.int .i64 md) (.int .i64 sz) (.int .u8 (kN : Int)))) from (Fr.refl _ w).alloc _)
  have HPT := Lib.hid (ppart (w.alloc (rec5 (.string nm) (.string lk) (.int .i64 md) (.int .i64 sz) (.int .u8 (kN : Int)))) (hT.keep HF0.out) nm (by have := hw.name; omega))
  have HMY := Lib.hid (fun wx (hF : Fr (fun _ => False) w wx) => pmay wx (hT.keep hF) nm lk md sz kN)
  rw [e1] at HPT
  rw [hv0]
  obtain ⟨V, hVV⟩ : ∃ V, V = printV h := ⟨_, rfl⟩
  rw [← hVV]
  have HBAD := Lib.hid (show ¬ mayH h → V = ([], 2) from fun hm => hVV.trans (print_bad hm))
  obtain ⟨p, hp⟩ : ∃ v, v = tx (partV h.name).1 := ⟨_, rfl⟩
  obtain ⟨q, hq⟩ : ∃ v, v = tx (partV h.name).2.1 := ⟨_, rfl⟩
  rw [← hp, ← hq] at HPT
  have HPQ := Lib.hid (⟨hp, hq⟩ : _ ∧ _)
  have HVV := Lib.hid hVV
  have HD := Lib.hid (⟨hnm, hlk, hmd, hsz, hkN, e4, e2⟩ : _ ∧ _ ∧ _ ∧ _ ∧ _ ∧ _ ∧ _)
  clear hnm hlk hmd hsz hkN e1 e2 e3 e4 hv0 hVV hw hT hp hq
  by_cases hok : (partV h.name).2.2 = true
  case neg =>
    have HE := Lib.hid (HBAD.out (fun hm => hok (hmay.1 hm).1))
    have hokf : (partV h.name).2.2 = false := by simpa using hok
    rw [hokf] at HPT
    clear hmay hok hokf HBAD HMY
    go_enter Tryz.func37, Tryz.ntmps37
    go_wp2_with fail
    refine HPT.out.mono ?_
    rintro e w1 ⟨rfl, hC1⟩
    have HF1 := Lib.hid (HF0.out.trans hC1.fr (fun _ _ e => e))
    clear hC1 HPT
    go_wp2_with fail
    go_ret2
    rw [HE.out]
    exact PrA.no HF1.out
  rw [hok] at HPT
  by_cases hr : okR nm lk md sz kN
  case neg =>
    have HE := Lib.hid (HBAD.out (fun hm => hr (hmay.1 hm).2))
    rw [decide_eq_false hr] at HMY
    clear hmay hok hr HBAD
    go_enter Tryz.func37, Tryz.ntmps37
    go_wp2_with fail
    refine HPT.out.mono ?_
    rintro e w1 ⟨rfl, hC1⟩
    obtain ⟨c0, c1, c2, c3, c4⟩ := rec_cells hC1.fr
    have HF1 := Lib.hid (HF0.out.trans hC1.fr (fun _ _ e => e))
    have HM1 := Lib.hid (HMY.out w1 HF1.out)
    clear hC1 HPT HMY
    go_wp2_with fail
    refine HM1.out.mono ?_
    rintro e w2 ⟨rfl, hF2⟩
    have HF2 := Lib.hid (HF1.out.trans hF2 (fun _ _ e => e))
    clear hF2 HM1 c0 c1 c2 c3 c4
    go_wp2_with fail
    go_ret2
    rw [HE.out]
    exact PrA.no HF2.out
  have hmh := hmay.2 ⟨hok, hr⟩
  rw [decide_eq_true hr] at HMY
  obtain ⟨q0, hq0⟩ := Option.isSome_iff_exists.1 hmh.1
  have hV : printV h = (printB h q0, 0) := print_good hq0 hmh
  obtain ⟨s1, s2, s3, -⟩ := parted_some hq0
  have hpv : partV h.name = (q0.1, q0.2, true) := by unfold partV; rw [hq0]
  obtain ⟨d1, d2, d3, d4, d5, d6, d7⟩ := HD.out
  obtain ⟨-, m2, m3, m4, m5, m6, m7, m8, m9⟩ := hmh
  obtain ⟨mN, hmN⟩ : ∃ n : Nat, md = n := ⟨md.toNat, by omega⟩
  obtain ⟨sN, hsN⟩ : ∃ n : Nat, sz = n := ⟨sz.toNat, by omega⟩
  have hmt : mN = h.mode.toNat := by omega
  have hst : sN = h.size.toNat := by omega
  have e5 : p.data.toList = q0.1 := by rw [HPQ.out.1, hpv]
  have e6 : q.data.toList = q0.2 := by rw [HPQ.out.2, hpv]
  have e7 : p.size = q0.1.length := by rw [← e5, Array.length_toList]; rfl
  have e8 : q.size = q0.2.length := by rw [← e6, Array.length_toList]; rfl
  have hmB : mN ≤ 4095 := by omega
  have hsB : sN ≤ 262144 := by omega
  have hl2 : lk.size ≤ 100 := by omega
  have HLN := Lib.hid (zN_lens (name := q0.2) (link := h.link) (pre := q0.1) (mode := mN) (size := sN) (kind := h.kind) s2 m2)
  have HB0 := Lib.hid (⟨s2, s3, m2⟩ : _ ∧ _ ∧ _)
  have HDT := Lib.hid (⟨e5, e6, d7, e7, e8, d6⟩ : _ ∧ _ ∧ _ ∧ _ ∧ _ ∧ _)
  have HMS := Lib.hid (⟨hmt, hst, d5⟩ : _ ∧ _ ∧ _)
  have HBD := Lib.hid (⟨hmB, hsB, hl2⟩ : _ ∧ _ ∧ _)
  have HV := Lib.hid hV
  rw [hmN, hsN] at HF0 HPT HMY ⊢
  clear hmay hok hr hV s1 s2 s3 m2 m3 m4 m5 m6 m7 m8 m9 hpv d1 d2 d3 d4 d5 d6 d7 hmt hst e5 e6 e7 e8 hmB hsB hl2 hq0 hmN hsN HBAD HD HPQ
  go_enter Tryz.func37, Tryz.ntmps37
  go_wp2_with fail
  refine HPT.out.mono ?_
  rintro e w1 ⟨rfl, hC1⟩
  obtain ⟨c0, c1, c2, c3, c4⟩ := rec_cells hC1.fr
  have HF1 := Lib.hid (HF0.out.trans hC1.fr (fun _ _ e => e))
  have HR1 := Lib.hid hC1.fr
  have HM1 := Lib.hid (HMY.out w1 HF1.out)
  clear hC1 HPT HMY
  go_wp2_with fail
  refine HM1.out.mono ?_
  rintro e w3 ⟨rfl, hF3⟩
  clear c0 c1 c2 c3 c4
  obtain ⟨c0, c1, c2, c3, c4⟩ := rec_cells (HR1.out.trans hF3 (fun _ _ e => e))
  have HF3 := Lib.hid (HF1.out.trans hF3 (fun _ _ e => e))
  have HR3 := Lib.hid (HR1.out.trans hF3 (fun _ _ e => e))
  have HT3 := Lib.hid (HT.out.keep HF3.out)
  clear hF3 HM1 HR1 HF1 HF0
  have hmk : (Instr.makeSlice 22 (.int .i64 512) (.int .i64 512)).run Tryz.prog w3 = .ok (.slice (some ⟨w3.heap.size, 0, none⟩) 512 512) (w3.alloc (.cells (zb 512) 5)) := run_make_bytes 512 (by decide) w3
  have HQ0 := Lib.hid (show PQ w3 (w3.alloc (.cells (zb 512) 5)) (some ⟨w3.heap.size, 0, none⟩) q0.2 h.link q0.1 mN sN h.kind 0 from pz_new w3)
  obtain ⟨x0, hx0⟩ : ∃ v, v = w3.alloc (.cells (zb 512) 5) := ⟨_, rfl⟩
  rw [← hx0] at hmk HQ0
  clear hx0
  have HP := Lib.hid (HQ0.out.pstep HT3.out (f := 0) (a := 0) (n := 100) (s := q) rfl (by rw [HDT.out.2.1]; rfl) (Nat.le_refl _) (by have := HDT.out; have := HB0.out; have := HBD.out; omega))
  have HP := Lib.hid (show Calls Tryz.prog 59 #[.int .i64 0, .slice (some ⟨w3.heap.size, 0, none⟩) 512 512, .string q] _ _ from HP.out)
  go_wp2_with fail
  clear hmk
  refine HP.out.mono ?_
  rintro e x1 ⟨rfl, hg⟩
  have HQ1 := Lib.hid (show PQ w3 x1 (some ⟨w3.heap.size, 0, none⟩) q0.2 h.link q0.1 mN sN h.kind 1 from hg)
  clear hg HP HQ0
  clear c0 c1 c2 c3 c4
  obtain ⟨c0, c1, c2, c3, c4⟩ := rec_cells (HR3.out.trans HQ1.out.fr (fun _ _ e => e))
  have HP := Lib.hid (HQ1.out.num HT3.out (f := 1) (a := 100) (n := 8) (x := mN) rfl (by decide) (by decide) rfl (by have := HBD.out; have h7 : (8 : Nat) ^ (8 - 1) = 2097152 := (by decide); omega) (by have := HLN.out; have := HB0.out; have := HDT.out; omega))
  have HP := Lib.hid (show Calls Tryz.prog 60 #[.int .i64 1, .slice (some ⟨w3.heap.size, 0, none⟩) 512 512, .int .i64 (mN : Int)] _ _ from HP.out)
  go_wp2_with fail
  refine HP.out.mono ?_
  rintro e x2 ⟨rfl, hg⟩
  have HQ2 := Lib.hid (show PQ w3 x2 (some ⟨w3.heap.size, 0, none⟩) q0.2 h.link q0.1 mN sN h.kind 2 from hg)
  clear hg HP HQ1
  clear c0 c1 c2 c3 c4
  obtain ⟨c0, c1, c2, c3, c4⟩ := rec_cells (HR3.out.trans HQ2.out.fr (fun _ _ e => e))
  have HP := Lib.hid (HQ2.out.num HT3.out (f := 2) (a := 108) (n := 8) (x := 0) rfl (by decide) (by decide) rfl (by decide) (by have := HLN.out; have := HB0.out; have := HDT.out; omega))
  have HP := Lib.hid (show Calls Tryz.prog 60 #[.int .i64 2, .slice (some ⟨w3.heap.size, 0, none⟩) 512 512, .int .i64 0] _ _ from HP.out)
  go_wp2_with fail
  refine HP.out.mono ?_
  rintro e x3 ⟨rfl, hg⟩
  have HQ3 := Lib.hid (show PQ w3 x3 (some ⟨w3.heap.size, 0, none⟩) q0.2 h.link q0.1 mN sN h.kind 3 from hg)
  clear hg HP HQ2
  clear c0 c1 c2 c3 c4
  obtain ⟨c0, c1, c2, c3, c4⟩ := rec_cells (HR3.out.trans HQ3.out.fr (fun _ _ e => e))
  have HP := Lib.hid (HQ3.out.num HT3.out (f := 3) (a := 116) (n := 8) (x := 0) rfl (by decide) (by decide) rfl (by decide) (by have := HLN.out; have := HB0.out; have := HDT.out; omega))
  have HP := Lib.hid (show Calls Tryz.prog 60 #[.int .i64 3, .slice (some ⟨w3.heap.size, 0, none⟩) 512 512, .int .i64 0] _ _ from HP.out)
  go_wp2_with fail
  refine HP.out.mono ?_
  rintro e x4 ⟨rfl, hg⟩
  have HQ4 := Lib.hid (show PQ w3 x4 (some ⟨w3.heap.size, 0, none⟩) q0.2 h.link q0.1 mN sN h.kind 4 from hg)
  clear hg HP HQ3
  clear c0 c1 c2 c3 c4
  obtain ⟨c0, c1, c2, c3, c4⟩ := rec_cells (HR3.out.trans HQ4.out.fr (fun _ _ e => e))
  have HP := Lib.hid (HQ4.out.num HT3.out (f := 4) (a := 124) (n := 12) (x := sN) rfl (by decide) (by decide) rfl (by have := HBD.out; have h7 : (8 : Nat) ^ (12 - 1) = 8589934592 := (by decide); omega) (by have := HLN.out; have := HB0.out; have := HDT.out; omega))
  have HP := Lib.hid (show Calls Tryz.prog 60 #[.int .i64 4, .slice (some ⟨w3.heap.size, 0, none⟩) 512 512, .int .i64 (sN : Int)] _ _ from HP.out)
  go_wp2_with fail
  refine HP.out.mono ?_
  rintro e x5 ⟨rfl, hg⟩
  have HQ5 := Lib.hid (show PQ w3 x5 (some ⟨w3.heap.size, 0, none⟩) q0.2 h.link q0.1 mN sN h.kind 5 from hg)
  clear hg HP HQ4
  clear c0 c1 c2 c3 c4
  obtain ⟨c0, c1, c2, c3, c4⟩ := rec_cells (HR3.out.trans HQ5.out.fr (fun _ _ e => e))
  have HP := Lib.hid (HQ5.out.num HT3.out (f := 5) (a := 136) (n := 12) (x := 0) rfl (by decide) (by decide) rfl (by decide) (by have := HLN.out; have := HB0.out; have := HDT.out; omega))
  have HP := Lib.hid (show Calls Tryz.prog 60 #[.int .i64 5, .slice (some ⟨w3.heap.size, 0, none⟩) 512 512, .int .i64 0] _ _ from HP.out)
  go_wp2_with fail
  refine HP.out.mono ?_
  rintro e x6 ⟨rfl, hg⟩
  have HQ6 := Lib.hid (show PQ w3 x6 (some ⟨w3.heap.size, 0, none⟩) q0.2 h.link q0.1 mN sN h.kind 6 from hg)
  clear hg HP HQ5
  clear c0 c1 c2 c3 c4
  obtain ⟨c0, c1, c2, c3, c4⟩ := rec_cells (HR3.out.trans HQ6.out.fr (fun _ _ e => e))
  have HOF := Lib.hid (show Calls Tryz.prog 43 #[.int .i64 7, .slice (some ⟨w3.heap.size, 0, none⟩) 512 512] x6.drew fun e w' => e = .returned (.slice (some ⟨w3.heap.size, 156, none⟩) 1 1) ∧ Fr (fun _ => False) x6 w' from by
    have hd : Fr (fun _ => False) x6 x6.drew := (Fr.refl _ x6).drew
    have h1 := pof x6.drew (HT3.out.keep (HQ6.out.fr.trans hd (fun _ _ e => e))) 7 156 1 rfl w3.heap.size 0 512 512 (by decide)
    rw [Nat.zero_add] at h1
    exact h1.mono fun _ _ ⟨a, b⟩ => ⟨a, hd.trans b (fun _ _ e => e)⟩)
  have c4' : x6.drew.cell? ⟨w.heap.size, 4, none⟩ = some (.int .u8 (kN : Int)) := c4
  have HK := Lib.hid (fun wx (hF : Fr (fun _ => False) x6 wx) => (HQ6.out.still hF).kind_ (by have := HLN.out; omega))
  have HRC := Lib.hid (fun wx (hF : Fr (fun _ => False) x6 wx) => rec_cells ((HR3.out.trans HQ6.out.fr (fun _ _ e => e)).trans hF (fun _ _ e => e)))
  go_wp2_with fail
  go_region_with (go_at_call 43; refine HOF.out.mono ?_; rintro e x7 ⟨rfl, hF⟩; obtain ⟨gg, eg, ⟨vv, hvv⟩, hff, hset⟩ := HK.out x7 hF; cases eg; rw [← HMS.out.2.2] at hset; have HQ7 := Lib.hid hset; obtain ⟨d0, d1, d2, d3, d4⟩ := HRC.out x7 hF; clear hset hF)
  all_goals
    clear hvv hff c0 c1 c2 c3 c4 c4' HOF HK HRC
    obtain ⟨c0, c1, c2, c3, c4⟩ := rec_cells (HR3.out.trans HQ7.out.fr (fun _ _ e => e))
    clear d0 d1 d2 d3 d4
    have HP := Lib.hid (HQ7.out.pstep HT3.out (f := 8) (a := 157) (n := 100) (s := lk) rfl (by rw [HDT.out.2.2.1]; rfl) (by have := HLN.out; have := HB0.out; have := HDT.out; omega) (by have := HDT.out; have := HB0.out; have := HBD.out; omega))
    have HP := Lib.hid (show Calls Tryz.prog 59 #[.int .i64 8, .slice (some ⟨w3.heap.size, 0, none⟩) 512 512, .string lk] _ _ from HP.out)
    go_wp2_with fail
    refine HP.out.mono ?_
    rintro e x8 ⟨rfl, hg⟩
    have HQ8 := Lib.hid (show PQ w3 x8 (some ⟨w3.heap.size, 0, none⟩) q0.2 h.link q0.1 mN sN h.kind 8 from hg)
    clear hg HP HQ7
    clear c0 c1 c2 c3 c4
    obtain ⟨c0, c1, c2, c3, c4⟩ := rec_cells (HR3.out.trans HQ8.out.fr (fun _ _ e => e))
    have HP := Lib.hid (HQ8.out.pstep HT3.out (f := 9) (a := 257) (n := 8) (s := ⟨#[117, 115, 116, 97, 114, 0, 48, 48]⟩) rfl (by rw [show (⟨#[117, 115, 116, 97, 114, 0, 48, 48]⟩ : ByteArray).data.toList = ustar from rfl]; rfl) (by have := HLN.out; have := HB0.out; have := HDT.out; omega) (by have := HDT.out; have := HB0.out; have := HBD.out; decide))
    have HP := Lib.hid (show Calls Tryz.prog 59 #[.int .i64 9, .slice (some ⟨w3.heap.size, 0, none⟩) 512 512, .string ⟨#[117, 115, 116, 97, 114, 0, 48, 48]⟩] _ _ from HP.out)
    go_wp2_with fail
    refine HP.out.mono ?_
    rintro e x9 ⟨rfl, hg⟩
    have HQ9 := Lib.hid (show PQ w3 x9 (some ⟨w3.heap.size, 0, none⟩) q0.2 h.link q0.1 mN sN h.kind 9 from hg)
    clear hg HP HQ8
    clear c0 c1 c2 c3 c4
    obtain ⟨c0, c1, c2, c3, c4⟩ := rec_cells (HR3.out.trans HQ9.out.fr (fun _ _ e => e))
    have HP := Lib.hid (HQ9.out.pstep HT3.out (f := 10) (a := 345) (n := 155) (s := p) rfl (by rw [HDT.out.1]; rfl) (by have := HLN.out; have := HB0.out; have := HDT.out; omega) (by have := HDT.out; have := HB0.out; have := HBD.out; omega))
    have HP := Lib.hid (show Calls Tryz.prog 59 #[.int .i64 10, .slice (some ⟨w3.heap.size, 0, none⟩) 512 512, .string p] _ _ from HP.out)
    go_wp2_with fail
    refine HP.out.mono ?_
    rintro e x10 ⟨rfl, hg⟩
    have HQ10 := Lib.hid (show PQ w3 x10 (some ⟨w3.heap.size, 0, none⟩) q0.2 h.link q0.1 mN sN h.kind 10 from hg)
    clear hg HP HQ9
    clear c0 c1 c2 c3 c4
    obtain ⟨c0, c1, c2, c3, c4⟩ := rec_cells (HR3.out.trans HQ10.out.fr (fun _ _ e => e))
    have hown := HQ10.out.done HB0.out.1 HB0.out.2.2 HB0.out.2.1
    have hblank : hdrV q0.2 h.link q0.1 mN sN h.kind (List.replicate 8 0) = blankV h q0 := by
      unfold blankV
      rw [HMS.out.1, HMS.out.2.1]
    rw [hblank] at hown
    have hblen : (blankV h q0).length = 512 := hdr_len HB0.out.1 HB0.out.2.2 HB0.out.2.1 (by simp)
    have HOW := Lib.hid hown
    have HFX := Lib.hid HQ10.out.fr
    have HSM := Lib.hid (show Calls Tryz.prog 46 #[.slice (some ⟨w3.heap.size, 0, none⟩) 512 512] x10 fun e w' => e = .returned (.int .i64 (sumV (blankV h q0) : Nat)) ∧ Fr (fun _ => False) x10 w' from by
      have h1 := psum x10 (HT3.out.keep HQ10.out.fr) (some ⟨w3.heap.size, 0, none⟩) 512 (blankV h q0) (Own.rd (by rw [hblen]; exact hown)) (by rw [hblen]; decide)
      rw [hblen] at h1
      exact h1)
    have htl : sumV (blankV h q0) ≤ 255 * 512 := by have := sumF_le (blankV h q0) 0; rw [hblen] at this; exact this
    obtain ⟨tt, htt⟩ : ∃ v, v = sumV (blankV h q0) := ⟨_, rfl⟩
    rw [← htt] at HSM htl
    have HN6 := Lib.hid (fun wx (hF : Fr (fun _ => False) x10 wx) => (show Calls Tryz.prog 61 #[.int .i64 (tt : Int), .int .i64 6] wx fun e w' => e = .returned (.string (tx (octL 6 tt))) ∧ Fr (fun _ => False) wx w' from pnumeral wx (HT3.out.keep (HFX.out.trans hF (fun _ _ e => e))) tt 6 (by decide) (by decide) (by have h6 : (8 : Nat) ^ 6 = 262144 := (by decide); omega)))
    obtain ⟨o6, ho6⟩ : ∃ v, v = tx (octL 6 tt) := ⟨_, rfl⟩
    rw [← ho6] at HN6
    have ho6s : o6.size + 2 ≤ 9223372036854775807 := by rw [ho6]; show (octL 6 tt).toArray.size + 2 ≤ _; rw [List.size_toArray, octL_length]; decide
    have HS8 := Lib.hid (show o6 ++ (⟨#[0, 32]⟩ : ByteArray) = tx (sum8 tt) from by rw [ho6, tx_app, tx_toL, show (⟨#[0, 32]⟩ : ByteArray).toList = [0, 32] from tx_toL [0, 32]]; rfl)
    have HTT := Lib.hid htt
    have HLP := Lib.hid (show (printB h q0).length = 512 from hdr_len HB0.out.1 HB0.out.2.2 HB0.out.2.1 (sum8_len _))
    clear hown hblank hblen htt ho6 HQ10
    go_wp2_with fail
    refine HSM.out.mono ?_
    rintro e x11 ⟨rfl, hF⟩
    have HF11 := Lib.hid hF
    have HN7 := Lib.hid (HN6.out x11 hF)
    clear hF HSM HN6 c0 c1 c2 c3 c4
    go_wp2_with fail
    refine HN7.out.mono ?_
    rintro e x12 ⟨rfl, hF⟩
    have HPE := Lib.hid (pprint_end HT3.out (A := some ⟨w3.heap.size, 0, none⟩) HB0.out.1 HB0.out.2.1 HB0.out.2.2 tt HTT.out _ HS8.out (HOW.out.kept (HF11.out.trans hF (fun _ _ e => e))) (HFX.out.trans (HF11.out.trans hF (fun _ _ e => e)) (fun _ _ e => e)))
    clear hF HN7
    go_wp2_with fail
    refine HPE.out.mono ?_
    rintro e x13 ⟨rfl, ho, hF⟩
    have HEND := Lib.hid (show PrA w V (.returned (.tuple #[.slice (some ⟨w3.heap.size, 0, none⟩) 512 512, .int .i64 0])) x13 from by
      rw [HVV.out, HV.out]
      refine ⟨some ⟨w3.heap.size, 0, none⟩, 512, by rw [HLP.out], ?_, HF3.out.trans hF (fun _ _ e => e)⟩
      rw [HLP.out]
      exact own_base ho HF3.out.size)
    clear ho hF HPE
    go_wp2_with fail
    go_ret2
    exact HEND.out
theorem head_all : HeadP DT where
  d_keep := fun h hF => h.keep hF
  parse := fun w A cap b hr _ hc hb hd => pparse w hd A cap b hr hc hb
  print := fun w h hw hd => pprint w hd h hw
  sum := fun w A cap b hr _ _ hb hd => psum w hd A cap b hr hb
  octal := fun w A cap b hr hA hc hb _ hm => poctal w A cap b hr hA hc hb hm
  empty := fun w A cap b hr hA hc _ _ hm => pempty w A cap b hr hA hc hm
end Go.Proofs.YtgimiggffpokpaaGreatDoor.he
