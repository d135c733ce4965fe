/-
  CodeReads over what is asked of the program's codes.
-/
import Derived.Test.YtnibbopdjeagoaaCdG
import Derived.Deep.DeepCutAuto
import Derived.Deep.CutBlock
namespace Go.Proofs.Ytnibbopdjeagoaa.cd
set_option maxRecDepth 100000
open Go.RowKit Go.Maps Go.Proofs.Ytnibbopdjeagoaa.fl
set_option maxRecDepth 100000

theorem rdT_kp {w w' : World} {lo hi : Nat} {A : Option Addr} {l : List Int} (h : RdT w lo hi A l) (hk : ∀ i, lo ≤ i → i < hi → w'.heap[i]? = w.heap[i]?) : RdT w' lo hi A l := fun hne => by
  obtain ⟨blk, off, e, h1, h2, hc⟩ := h hne
  exact ⟨blk, off, e, h1, h2, fun j x hj => (World.cell?_of_block (w := w) (w' := w') (hk blk h1 h2)).trans (hc j x hj)⟩
theorem rdW_kp {w w' : World} {lo hi : Nat} {A : Option Addr} {W : List (List Int)} (h : RdW w lo hi A W) (hk : ∀ i, lo ≤ i → i < hi → w'.heap[i]? = w.heap[i]?) : RdW w' lo hi A W := fun hne => by
  obtain ⟨g, e, h1, h2, hc⟩ := h hne
  refine ⟨g, e, h1, h2, fun j r hj => ?_⟩
  obtain ⟨A', c, k1, k2⟩ := hc j r hj
  exact ⟨A', c, (World.cell?_of_block (w := w) (w' := w') (hk g h1 h2)).trans k1, rdT_kp k2 hk⟩
theorem yr_kp {w w' : World} {lo yb at_ : Nat} {L : List Int} (h : YR w lo yb L at_) (hk : ∀ i, lo ≤ i → i ≤ yb → w'.heap[i]? = w.heap[i]?) (hlo : lo ≤ yb) : YR w' lo yb L at_ := by
  obtain ⟨A, cap, h1, h2, h3⟩ := h.cell
  exact ⟨⟨A, cap, (hk yb hlo (Nat.le_refl _)).trans h1, h2, rdT_kp h3 (fun i a b => hk i a (Nat.le_of_lt b))⟩, h.le, h.bits, h.len⟩
theorem words_in {l : List Int} (h : okB l = true) : ∀ r ∈ wordsL l, r.length ≤ 15 ∧ AllBit r := fun r hr => by
  unfold wordsL at hr
  obtain ⟨i, _, rfl⟩ := List.mem_map.1 hr
  exact ⟨by rw [wordB_length]; exact lenN_le h i, wordB_bits l i⟩
section
variable {R : RP} {V : VP} {C : CP}
/-- A code, a reader, the document's words and its reader. -/
def StR (R : RP) (C : CP) (w0 : World) (c : Addr) (l : List Int) (a : Addr) (b : List UInt8) (Aw : Option Addr) (wl wh lo yb : Nat) (w : World) (p q : Nat) : Prop :=
  JC R C w0 c l a b (fun i => (wl ≤ i ∧ i < wh) ∨ (lo ≤ i ∧ i ≤ yb)) w p ∧ RdW w wl wh Aw (wordsL l) ∧ YR w lo yb (bitsOf b) q ∧ wh ≤ lo ∧ lo ≤ yb
theorem StR.still (HF : FlowP R V) (HP : CodeP R V C) {w0 w w' : World} {c a : Addr} {l : List Int} {b : List UInt8} {Aw : Option Addr} {wl wh lo yb p q : Nat} (h : StR R C w0 c l a b Aw wl wh lo yb w p q) (hF : Fr (fun _ => False) w w') : StR R C w0 c l a b Aw wl wh lo yb w' p q := by
  obtain ⟨h1, h2, h3, h4, h5⟩ := h
  obtain ⟨_, _, hb, _⟩ := id h3.cell
  have hlt := (Array.getElem?_eq_some_iff.1 hb).1
  exact ⟨h1.still HF HP hF, h2.still hF (by omega), h3.kept hF (fun _ _ _ e => e) h5, h4, h5⟩
theorem StR.read (HF : FlowP R V) (HP : CodeP R V C) {w0 w : World} {c a : Addr} {l : List Int} {b : List UInt8} {Aw : Option Addr} {wl wh lo yb p q : Nat} (h : StR R C w0 c l a b Aw wl wh lo yb w p q) : Calls Try.prog 24 #[.pointer (some c), .pointer (some a)] w fun e w' => e = .returned (.tuple #[.int .i64 ((rdC l (bitsOf b) p).1 : Nat), .int .i64 (rdC l (bitsOf b) p).2.1]) ∧ StR R C w0 c l a b Aw wl wh lo yb w' (rdC l (bitsOf b) p).2.2 q := by
  obtain ⟨h1, h2, h3, h4, h5⟩ := h
  refine (h1.read HF HP).mono fun e w' g => ?_
  obtain ⟨he, hk, hj, _⟩ := g
  exact ⟨he, hj, rdW_kp h2 (fun i a b => hk i (Or.inl ⟨a, b⟩)), yr_kp h3 (fun i a b => hk i (Or.inr ⟨a, b⟩)) h5, h4, h5⟩
theorem StR.yread (HF : FlowP R V) (HP : CodeP R V C) {w0 w : World} {c a : Addr} {l : List Int} {b : List UInt8} {Aw : Option Addr} {cw wl wh lo yb p q : Nat} (h : StR R C w0 c l a b Aw wl wh lo yb w p q) : Calls Try.prog 25 #[.slice Aw (wordsL l).length cw, .pointer (some ⟨yb, 0, none⟩)] w fun e w' => e = .returned (.tuple #[.int .i64 ((rdC l (bitsOf b) q).1 : Nat), .int .i64 (rdC l (bitsOf b) q).2.1]) ∧ StR R C w0 c l a b Aw wl wh lo yb w' p (rdC l (bitsOf b) q).2.2 := by
  obtain ⟨h1, h2, h3, h4, h5⟩ := h
  have hok := h1.ok HP
  obtain ⟨_, _, hb, _⟩ := id h3.cell
  have hlt := (Array.getElem?_eq_some_iff.1 hb).1
  refine (rread w wl wh lo yb q cw Aw (wordsL l) (bitsOf b) h2 (by rw [wordsL_length]; have := ((okB_iff l).1 hok).1; omega) (words_in hok) h3 h5 h4).mono fun e w' g => ?_
  obtain ⟨he, hy, hF⟩ := g
  exact ⟨he, (h1.xaft HF HP (hF.mono (fun i _ e => Or.inr (by omega)))).less (fun i e => Or.inl e), h2.kept hF (by omega) (fun i _ a e => by omega), hy, h4, h5⟩

set_option maxHeartbeats 8000000 in
theorem reads_walk (HF : FlowP R V) (HP : CodeP R V C) (w : World) (A : Option Addr) (cap : Nat) (l : List Int) (A2 : Option Addr) (cap2 : Nat) (b : List UInt8) (hr : RdI w w.heap.size A l) (hA : A = none → cap = 0) (hc : l.length ≤ cap) (hl : l.length ≤ 140737488351232) (hr2 : Rd w w.heap.size A2 b) (hA2 : A2 = none → cap2 = 0) (hc2 : b.length ≤ cap2) (hl2 : b.length ≤ 140737488351232) :
    Calls Try.prog 4 #[.slice A l.length cap, .slice A2 b.length cap2] w fun e w' => e = .returned (.bool true) ∧ Fr (fun _ => False) w w' := by
  have HPP := Lib.hid (⟨HF, HP⟩ : _ ∧ _)
  have HI := Lib.hid (⟨hr, hA, hc, hl⟩ : _ ∧ _ ∧ _ ∧ _)
  have HCUT : Hid (100 < b.length → Rd w w.heap.size A2 (b.take 100) ∧ 100 = (b.take 100).length) := Lib.hid fun h => ⟨hr2.take 100, by rw [List.length_take]; omega⟩
  obtain ⟨n, hn⟩ : ∃ n, n = l.length := ⟨_, rfl⟩
  have HN := Lib.hid hn
  obtain ⟨m, hm⟩ : ∃ n, n = b.length := ⟨_, rfl⟩
  have HB := Lib.hid (⟨hr2, hm, hA2⟩ : _ ∧ _ ∧ _)
  have hcn : m ≤ cap2 := by rw [hm]; exact hc2
  have hbn : m ≤ 140737488351232 := by rw [hm]; exact hl2
  rw [← hn, ← hm]
  clear HF HP hr hA hc hl hn hr2 hA2 hc2 hl2 hm
  go_enter Try.func4, Try.ntmps4
  go_upto_if 17 with (fail)
  go_cut [1] (fun s1 wz => ∃ (bb : List UInt8) (nb : Nat), s1 = .slice A2 nb cap2 ∧ w = wz ∧ nb ≤ cap2 ∧ Hid (Rd w w.heap.size A2 bb ∧ nb = bb.length ∧ nb ≤ 100))
  case first =>
    by_cases hbig : (100 : Int) < m
    · have hkc : 100 ≤ cap2 := by omega
      have HZ := Lib.hid (HCUT.out (by rw [← HB.out.2.1]; omega))
      go_wp2_with fail
      go_meet
      exact ⟨b.take 100, 100, rfl, rfl, hkc, (show _ ∧ _ from ⟨HZ.out.1, HZ.out.2, Nat.le_refl _⟩)⟩
    · have h3 : m ≤ 100 := by omega
      go_wp2_with fail
      go_meet
      exact ⟨b, m, rfl, rfl, hcn, (show _ ∧ _ from ⟨HB.out.1, HB.out.2.1, h3⟩)⟩
  obtain ⟨bb, nb, rfl, rfl, hnc, HBB⟩ := hcut
  have HNB := Lib.hid HBB.out.2
  clear hcn hbn HCUT
  cases hok : okB l with
  | false =>
    have HNW := Lib.hid (HPP.out.2.new_no w A cap l HI.out.1 HI.out.2.1 HI.out.2.2.1 HI.out.2.2.2 hok)
    rw [← HN.out] at HNW
    have HCK := Lib.hid (chk_no hok)
    clear hok
    go_wp2_with fail
    refine HNW.out.mono ?_
    rintro e w2 ⟨rfl, hF2⟩
    have HF2 := Lib.hid hF2
    have HC2 := Lib.hid (rcheck w2 A cap w2.heap.size l (rdI_more (HI.out.1.still HF2.out (Nat.le_refl _)) HF2.out.size) HI.out.2.2.2)
    rw [← HN.out, HCK.out] at HC2
    clear hF2 HNW
    go_wp2_with fail
    refine HC2.out.mono ?_
    rintro e w3 ⟨rfl, rfl⟩
    go_wp2_with fail
    go_ret
    exact ⟨rfl, HF2.out⟩
  | true =>
    have HNW := Lib.hid (HPP.out.2.new_ok w A cap l HI.out.1 HI.out.2.1 HI.out.2.2.1 HI.out.2.2.2 hok)
    rw [← HN.out] at HNW
    have HOK := Lib.hid hok
    clear hok
    go_wp2_with fail
    refine HNW.out.mono ?_
    rintro e w2 ⟨c, S, rfl, hC, hS, hF2⟩
    have HC := Lib.hid (⟨hC, hS, hF2⟩ : C w2 c l S ∧ (∀ i, S i → w.heap.size ≤ i) ∧ Fr (fun _ => False) w w2)
    have HWD := Lib.hid (rwords w2 A cap l (rdI_more (HI.out.1.still hF2 (Nat.le_refl _)) hF2.size) HOK.out)
    rw [← HN.out] at HWD
    clear hC hS hF2 HNW
    go_wp2_with fail
    refine HWD.out.mono ?_
    rintro e w3 ⟨Aw, cw, rfl, hW, hF3⟩
    have HC3 := Lib.hid (⟨HPP.out.2.c_keep HC.out.1 hF3 (fun _ _ e => e), HC.out.2.2.trans hF3 (fun _ _ e => e), hW, hF3⟩ : C w3 c l S ∧ Fr (fun _ => False) w w3 ∧ RdW w3 w2.heap.size w3.heap.size Aw (wordsL l) ∧ Fr (fun _ => False) w2 w3)
    have HFN := Lib.hid (HPP.out.1.new w3 A2 cap2 bb ((HBB.out.1.still HC3.out.2.1 (Nat.le_refl _)).more HC3.out.2.1.size) HB.out.2.2 (by rw [← HNB.out.1]; exact hnc) (by have := HNB.out; omega))
    rw [← HNB.out.1] at HFN
    clear hW hF3 HWD
    go_wp2_with fail
    refine HFN.out.mono ?_
    rintro e w4 ⟨a, T, rfl, hR, hT, hF4⟩
    have HR4 := Lib.hid (⟨hR, hT, hF4, HC3.out.2.1.trans hF4 (fun _ _ e => e)⟩ : R w4 a bb 0 T ∧ (∀ i, T i → w3.heap.size ≤ i) ∧ Fr (fun _ => False) w3 w4 ∧ Fr (fun _ => False) w w4)
    have HBT := Lib.hid (rbits w4 A2 cap2 bb ((HBB.out.1.still HR4.out.2.2.2 (Nat.le_refl _)).more HR4.out.2.2.2.size) (by have := HNB.out; omega))
    rw [← HNB.out.1] at HBT
    clear hR hT hF4 HFN
    go_wp2_with fail
    refine HBT.out.mono ?_
    rintro e w5 ⟨Ab, cb, rfl, hob, hF5⟩
    obtain ⟨nL, hnL⟩ : ∃ nL, nL = (bitsOf bb).length := ⟨_, rfl⟩
    have HNL := Lib.hid (⟨hnL, by rw [hnL, bitsOf_length, HNB.out.1]⟩ : nL = (bitsOf bb).length ∧ nL = 8 * nb)
    obtain ⟨wl, hwl⟩ : ∃ x, x = w2.heap.size := ⟨_, rfl⟩
    obtain ⟨wh, hwh⟩ : ∃ x, x = w3.heap.size := ⟨_, rfl⟩
    obtain ⟨lo, hlo⟩ : ∃ x, x = w4.heap.size := ⟨_, rfl⟩
    obtain ⟨yb, hyb⟩ : ∃ x, x = w5.heap.size := ⟨_, rfl⟩
    have hF6 := (Fr.refl (fun _ => False) w5).alloc (.cells #[.slice Ab nL cb, .int .i64 0] 45)
    have hF46 := hF5.trans hF6 (fun _ _ e => e)
    have hF36 := HR4.out.2.2.1.trans hF46 (fun _ _ e => e)
    have H6 : Hid (StR R C w c l a bb Aw wl wh lo yb (w5.alloc (.cells #[.slice Ab nL cb, .int .i64 0] 45)) 0 0) := Lib.hid (by
      have s1 := HC.out.2.2.size
      have s2 := HC3.out.2.2.2.size
      have s3 := HR4.out.2.2.1.size
      have s4 := hF5.size
      have s5 : (w5.alloc (.cells #[.slice Ab nL cb, .int .i64 0] 45)).heap.size = w5.heap.size + 1 := World.size_alloc _ _
      have hCS := (HPP.out.2.c_in HC.out.1).1
      have hTS := (HPP.out.1.r_in HR4.out.1).1
      refine ⟨⟨⟨S, T, HPP.out.2.c_keep HC3.out.1 hF36 (fun _ _ e => e), HPP.out.1.r_keep HR4.out.1 hF46 (fun _ _ e => e), fun i hi => ⟨HC.out.2.1 i hi, fun ht => ?_, fun hx => ?_⟩, fun i hi => ⟨?_, fun hx => ?_⟩⟩, HR4.out.2.2.2.trans hF46 (fun _ _ e => e), fun i hi => ?_⟩, ?_, ⟨⟨Ab, cb, ?_, own_capI hob, ?_⟩, Nat.zero_le _, bitsOf_bits _, by rw [← hnL, HNL.out.2]; have := HNB.out.2; omega⟩, by omega, by omega⟩
      · have := hCS i hi; have := HR4.out.2.1 i ht; omega
      · have := hCS i hi; omega
      · have := HR4.out.2.1 i hi; omega
      · have := hTS i hi; have := HR4.out.2.1 i hi; omega
      · omega
      · rw [hwl, hwh]
        exact HC3.out.2.2.1.still hF36 (Nat.le_refl _)
      · rw [hyb, hnL]
        exact heap_alloc_new _ _
      · rw [hlo, hyb]
        exact (ownI_rdT hob).kept hF6 (Nat.le_refl _) (fun _ _ _ e => e))
    rw [← hnL]
    have HYB := Lib.hid hyb
    clear hF6 hF46 hF36 hob hF5 HBT hwl hwh hlo hyb hnL
    go_wp2_with fail
    rw [← HYB.out]
    go_loopw [10] (fun v10 wr => ∃ i p : Nat, i ≤ 900 ∧ i ≤ p ∧ p ≤ 800 ∧ v10 = .int .i64 i ∧ Hid (StR R C w c l a bb Aw wl wh lo yb wr p p)) (fun v _ => 900 - (intOf v).toNat)
    case atStart => exact ⟨0, 0, by omega, Nat.le_refl _, by omega, rfl, H6⟩
    case round =>
      obtain ⟨i, p, hi, hip, hp8, rfl, HK⟩ := hrel
      clear H6
      have hlt : i < 900 := by omega
      have HRD := Lib.hid (HK.out.read HPP.out.1 HPP.out.2)
      have hon := rdC_on l (bitsOf bb) p
      rw [bitsOf_length, ← HNB.out.1] at hon
      have hle := HK.out.1.le HPP.out.1
      rw [← HNB.out.1] at hle
      obtain ⟨s, hs⟩ : ∃ s, s = (rdC l (bitsOf bb) p).1 := ⟨_, rfl⟩
      obtain ⟨z, hz⟩ : ∃ s, s = (rdC l (bitsOf bb) p).2.1 := ⟨_, rfl⟩
      obtain ⟨p2, hp2⟩ : ∃ s, s = (rdC l (bitsOf bb) p).2.2 := ⟨_, rfl⟩
      have HE := Lib.hid (⟨hs, hz, hp2⟩ : _ ∧ _ ∧ _)
      rw [← hs, ← hz, ← hp2] at HRD
      rw [← hz, ← hp2] at hon
      have hon3 := hon.2.2.1 hle
      have hon2 := hon.2.1
      have HON := Lib.hid (⟨hon2, (by have := HNB.out.2; omega : p2 ≤ 800)⟩ : (z = 0 → p + 1 ≤ p2) ∧ p2 ≤ 800)
      clear hs hz hp2 hon hon2 hon3 hle
      go_wp2_with fail
      refine HRD.out.mono ?_
      rintro e w7 ⟨rfl, h7⟩
      have HYR := Lib.hid (h7.yread (cw := cw) HPP.out.1 HPP.out.2)
      rw [wordsL_length, ← HN.out, ← HE.out.1, ← HE.out.2.1, ← HE.out.2.2] at HYR
      clear h7 HRD
      go_wp2_with fail
      refine HYR.out.mono ?_
      rintro e w8 ⟨rfl, h8⟩
      have H8 := Lib.hid h8
      have HAT := Lib.hid (fun m : Nat => quiet_calm2 (((h8.still HPP.out.1 HPP.out.2 ((Fr.refl (fun _ => False) w8).drewN m)).1.at_ HPP.out.1 HPP.out.2).mono fun _ _ g => ⟨g.1, g.2.1⟩))
      obtain ⟨Ay, cy, hby, -, -⟩ := h8.2.2.1.cell
      have y1 : w8.cell? ⟨yb, 1, none⟩ = some (.int .i64 (p2 : Int)) := (cellAt hby 1).trans rfl
      clear h8 HYR hby
      go_wp2_with fail
      go_quiet ((go_at_call 26; exact HAT.out _))
      by_cases hz0 : z = 0
      · subst hz0
        have HON2 := Lib.hid (⟨HON.out.1 rfl, HON.out.2⟩ : _ ∧ _)
        have HD := Lib.hid (H8.out.still HPP.out.1 HPP.out.2 ((Fr.refl (fun _ => False) w8).drewN nq))
        go_wp2_with fail
        go_roundw
        case rel => exact ⟨i + 1, p2, by omega, by have := HON2.out; omega, HON2.out.2, by go_num, HD⟩
        case measure => simp [intOf]; omega
      · have hne : (z != 0) = true := by rw [bne_iff_ne]; exact hz0
        have HD := Lib.hid (H8.out.1.fr.trans ((Fr.refl (fun _ => False) w8).drewN nq) (fun _ _ e => e))
        go_wp2_with fail
        refine (cworks HPP.out.1 HPP.out.2 _).mono ?_
        rintro e w9 ⟨rfl, hF9⟩
        have HF9 := Lib.hid (HD.out.trans hF9 (fun _ _ e => e))
        clear hF9
        go_wp2_with fail
        go_ret
        exact ⟨rfl, HF9.out⟩
end
end Go.Proofs.Ytnibbopdjeagoaa.cd
