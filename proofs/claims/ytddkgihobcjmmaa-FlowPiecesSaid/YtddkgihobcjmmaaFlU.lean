/-
  FlowReads over what is asked of the program's readers.
-/
import Derived.Test.YtddkgihobcjmmaaFlH
import Derived.Deep.DeepCutAuto
import Derived.Deep.CutBlock
namespace Go.Proofs.Ytddkgihobcjmmaa.fl
set_option maxRecDepth 100000
open Go.RowKit Go.Maps
set_option maxRecDepth 100000

section
variable {R : RP} {V : VP}
set_option maxHeartbeats 8000000 in
theorem reads_walk (HP : FlowP R V) (w : World) (A : Option Addr) (cap : Nat) (b : List UInt8) (Aa : Option Addr) (ca : Nat) (acts : List AF) (hr : Rd w w.heap.size A b) (hA : A = none → cap = 0) (hc : b.length ≤ cap) (hb : b.length ≤ 140737488351232) (ha : ActsF w w.heap.size Aa acts) :
    Calls Try.prog 3 #[.slice A b.length cap, .slice Aa acts.length ca] w fun e w' => e = .returned (.bool true) ∧ Fr (fun _ => False) w w' := by
  have HPP := Lib.hid HP
  have HAC := Lib.hid ha
  obtain ⟨na, hna⟩ : ∃ na, na = acts.length := ⟨_, rfl⟩
  have HNA := Lib.hid hna
  have hna3 : na ≤ 9223372036854775807 := by rw [hna]; exact ha.len
  rw [← hna]
  have HCUT : Hid (3000 < b.length → Rd w w.heap.size A (b.take 3000) ∧ 3000 = (b.take 3000).length) := Lib.hid fun h => ⟨hr.take 3000, by rw [List.length_take]; omega⟩
  obtain ⟨n, hn⟩ : ∃ n, n = b.length := ⟨_, rfl⟩
  have HI := Lib.hid (⟨hr, hn, hA⟩ : _ ∧ _ ∧ _)
  have hcn : n ≤ cap := by rw [hn]; exact hc
  have hbn : n ≤ 140737488351232 := by rw [hn]; exact hb
  rw [← hn]
  clear HP hr hA hc hb hn ha hna
  go_enter Try.func3, Try.ntmps3
  go_upto_if 25 with (fail)
  go_cut [0] (fun s0 wz => ∃ (bb : List UInt8) (nb : Nat), s0 = .slice A nb cap ∧ w = wz ∧ nb ≤ cap ∧ Hid (Rd w w.heap.size A bb ∧ nb = bb.length ∧ nb ≤ 3000))
  case first =>
    by_cases hbig : (3000 : Int) < n
    · have hkc : 3000 ≤ cap := by omega
      have HZ := Lib.hid (HCUT.out (by rw [← HI.out.2.1]; omega))
      go_wp2_with fail
      go_meet
      exact ⟨b.take 3000, 3000, rfl, rfl, hkc, (show _ ∧ _ from ⟨HZ.out.1, HZ.out.2, Nat.le_refl _⟩)⟩
    · have h3 : n ≤ 3000 := by omega
      go_wp2_with fail
      go_meet
      exact ⟨b, n, rfl, rfl, hcn, (show _ ∧ _ from ⟨HI.out.1, HI.out.2.1, h3⟩)⟩
  obtain ⟨bb, nb, rfl, rfl, hnc, HBB⟩ := hcut
  have HNB := Lib.hid HBB.out.2
  clear hcn hbn HCUT
  have HBY := Lib.hid (bytes_any w A cap bb HBB.out.1 HI.out.2.2 (by have := HNB.out; omega))
  rw [← HNB.out.1] at HBY
  go_wp2_with fail
  refine HBY.out.mono ?_
  rintro e w1 ⟨Ao, co, rfl, ho, hF1⟩
  have HO1 := Lib.hid (⟨Own.rd ho, own_cap2 ho, hF1⟩ : Rd w1 w1.heap.size Ao bb ∧ ((Ao = none → co = 0) ∧ bb.length ≤ co) ∧ Fr (fun _ => False) w w1)
  have HNW := Lib.hid (HPP.out.new w1 Ao co bb HO1.out.1 HO1.out.2.1.1 HO1.out.2.1.2 (by have := HNB.out; omega))
  rw [← HNB.out.1] at HNW
  rw [← HNB.out.1]
  clear ho hF1 HBY
  go_wp2_with fail
  refine HNW.out.mono ?_
  rintro e w2 ⟨a, S, rfl, hR, hS, hF2⟩
  have HR2 := Lib.hid (⟨hR, hS, hF2⟩ : _ ∧ _ ∧ _)
  have HF02 := Lib.hid (HO1.out.2.2.trans hF2 (fun _ _ e => e))
  have HBT := Lib.hid (rbits w2 A cap bb ((HBB.out.1.still HF02.out (Nat.le_refl _)).more HF02.out.size) (by have := HNB.out; omega))
  rw [← HNB.out.1] at HBT
  clear hR hS hF2 HNW
  go_wp2_with fail
  refine HBT.out.mono ?_
  rintro e w3 ⟨Ab, cb, rfl, hob, hF3⟩
  obtain ⟨nL, hnL⟩ : ∃ nL, nL = (bitsOf bb).length := ⟨_, rfl⟩
  have HNL := Lib.hid (⟨hnL, by rw [hnL, bitsOf_length, HNB.out.1]⟩ : nL = (bitsOf bb).length ∧ nL = 8 * nb)
  obtain ⟨ob, hobe⟩ : ∃ ob, ob = w1.heap.size := ⟨_, rfl⟩
  obtain ⟨lo, hloe⟩ : ∃ lo, lo = w2.heap.size := ⟨_, rfl⟩
  obtain ⟨yb, hybe⟩ : ∃ yb, yb = w3.heap.size := ⟨_, rfl⟩
  have hF4 := (Fr.refl (fun _ => False) w3).alloc (.cells #[.slice Ab nL cb, .int .i64 0] 31)
  have hF24 := hF3.trans hF4 (fun _ _ e => e)
  have H4 : Hid (J R w ob lo yb Ao a bb (fun _ => False) (w3.alloc (.cells #[.slice Ab nL cb, .int .i64 0] 31)) 0 0) := Lib.hid (by
    have s1 := HO1.out.2.2.size
    have s2 := HR2.out.2.2.size
    have s3 := hF3.size
    have s4 : (w3.alloc (.cells #[.slice Ab nL cb, .int .i64 0] 31)).heap.size = w3.heap.size + 1 := World.size_alloc _ _
    refine ⟨⟨S, HPP.out.r_keep HR2.out.1 hF24 (fun _ _ e => e), fun i hi => ⟨by rw [hobe]; exact HR2.out.2.1 i hi, fun h => by have := (HPP.out.r_in HR2.out.1).1 i hi; omega, fun e => e⟩⟩, ⟨⟨Ab, cb, ?_, own_capI hob, ?_⟩, Nat.zero_le _, bitsOf_bits _, by rw [← hnL, HNL.out.2]; have := HNB.out.2; omega⟩, ?_, HF02.out.trans hF24 (fun _ _ e => e), by omega, by omega, by omega, by omega, fun i e => e.elim⟩
    · rw [hybe, hnL]
      exact heap_alloc_new _ _
    · rw [hloe, hybe]
      exact (ownI_rdT hob).kept hF4 (Nat.le_refl _) (fun _ _ _ e => e)
    · rw [hobe]
      exact (HO1.out.1.still HR2.out.2.2 (Nat.le_refl _)).still hF24 s2)
  rw [← hnL]
  have HBD := Lib.hid (⟨hobe, hloe, hybe⟩ : _ ∧ _ ∧ _)
  clear hnL hF4 hF24 hob hF3 HBT hobe hloe hybe
  have e4 : (w3.alloc (.cells #[.slice Ab nL cb, .int .i64 0] 31)).heap.size = w3.heap.size + 1 := World.size_alloc _ _
  go_wp2_with fail
  rw [← HBD.out.2.2]
  clear e4
  go_loopw [8] (fun v8 wr => ∃ k p : Nat, k ≤ na ∧ p ≤ 24000 ∧ v8 = .int .i64 k ∧ Hid (J R w ob lo yb Ao a bb (fun _ => False) wr p p)) (fun v _ => na - (intOf v).toNat)
  case atStart => exact ⟨0, 0, Nat.zero_le _, by omega, rfl, H4⟩
  case round =>
    obtain ⟨k, p, hk, hp, rfl, HK⟩ := hrel
    clear H4
    have HEND : Hid (∀ wz : World, J R w ob lo yb Ao a bb (fun _ => False) wz p p → Calls Try.prog 21 #[.slice Ao nb co, .slice A nb cap] wz fun e w' => e = .returned (.bool true) ∧ Calm wz w') := Lib.hid fun wz hj => by
      have h := same_any wz Ao A wz.heap.size wz.heap.size co cap bb bb (hj.o.more (by have := hj.h2; have := hj.h3; have := hj.h4; omega)) ((HBB.out.1.still hj.fr (Nat.le_refl _)).more hj.fr.size) (by have := HNB.out; omega)
      rwa [decide_eq_true rfl, ← HNB.out.1] at h
    by_cases hlt : k < na
    · by_cases hlt2 : (k : Int) < 200
      · obtain ⟨x, hx⟩ : ∃ x, acts[k]? = some x := ⟨_, List.getElem?_eq_getElem (by have := HNA.out; omega)⟩
        obtain ⟨blk, off, rfl, c0, c1, c2, c3⟩ := HAC.out.at_ hx HK.out.fr (Nat.le_refl _) (fun _ _ e => e)
        have HOK := Lib.hid (HAC.out.ok x (List.mem_of_getElem? hx))
        obtain ⟨xd, xn, xb, xA, xc, xl⟩ := x
        obtain ⟨q3, hq3⟩ : ∃ q3, q3 = xl.length := ⟨_, rfl⟩
        have c3' : wr.cell? ⟨blk, off + k * 4 + 3, none⟩ = some (.slice xA q3 xc) := by rw [hq3]; exact c3
        have HAM := Lib.hid (fun w2 : World => among_nat w2 xd 6 (by omega) (by omega))
        obtain ⟨g9, hg9⟩ : ∃ g9, g9 = wr.heap.size := ⟨_, rfl⟩
        have hJ9 := (HK.out.alloc HPP.out (.cells #[.int .i64 xd, .int .i64 xn, .int .i64 xb, .slice xA q3 xc] 33)).less (Y := fun i => i = g9) (fun i e => Or.inr (e.trans hg9))
        have hB9 := heap_alloc_new wr (.cells #[.int .i64 xd, .int .i64 xn, .int .i64 xb, .slice xA q3 xc] 33)
        rw [← hg9] at hB9
        clear c3 hx hq3 HEND
        go_wp2_with fail
        rw [← hg9]
        obtain ⟨w9, hw9⟩ : ∃ w9, w9 = wr.alloc (.cells #[.int .i64 xd, .int .i64 xn, .int .i64 xb, .slice xA q3 xc] 33) := ⟨_, rfl⟩
        rw [← hw9] at hJ9 hB9 ⊢
        have H9 := Lib.hid hJ9
        have HB9 := Lib.hid hB9
        have d0 : w9.cell? ⟨g9, 0, none⟩ = some (.int .i64 xd) := (cellAt hB9 0).trans rfl
        have d1 : w9.cell? ⟨g9, 1, none⟩ = some (.int .i64 xn) := (cellAt hB9 1).trans rfl
        have HG9 := Lib.hid hg9
        clear hJ9 hB9 hw9 hg9 c0 c1 c2 c3'
        refine (HAM.out w9).mono ?_
        rintro e w' ⟨kk, hkk, rfl, rfl⟩
        go_upto_block 2 with (fail)
        go_cut [10] (fun s10 wz => ∃ p2 : Nat, s10 = .bool true ∧ p2 ≤ 24000 ∧ Hid (J R w ob lo yb Ao a bb (fun _ => False) wz p2 p2))
        case first =>
          have h6 : kk = 0 ∨ kk = 1 ∨ kk = 2 ∨ kk = 3 ∨ kk = 4 ∨ kk = 5 := by omega
          clear hkk HK
          rcases h6 with rfl | rfl | rfl | rfl | rfl | rfl
          · as_aux_lemma =>
              obtain ⟨t1, ht1⟩ : ∃ t, t = (takeV (bitsOf bb) p xn).1 := ⟨_, rfl⟩
              obtain ⟨t2, ht2⟩ : ∃ t, t = (takeV (bitsOf bb) p xn).2 := ⟨_, rfl⟩
              obtain ⟨p2, hp2⟩ : ∃ p2, p2 = takeA (bitsOf bb) p xn := ⟨_, rfl⟩
              have HTK := Lib.hid (H9.out.take HPP.out xn HOK.out.n)
              rw [← ht1, ← ht2, ← hp2] at HTK
              have HE := Lib.hid (⟨ht1, ht2, hp2⟩ : _ ∧ _ ∧ _)
              clear ht1 ht2 hp2
              go_wp2_with fail
              refine HTK.out.mono ?_
              rintro e w10 ⟨rfl, hk10, h10⟩
              have hb10 := (hk10 g9 rfl).trans HB9.out
              have e1 : w10.cell? ⟨g9, 1, none⟩ = some (.int .i64 xn) := (cellAt hb10 1).trans rfl
              have HYT := Lib.hid (h10.ytake HPP.out xn HOK.out.n)
              rw [← HE.out.1, ← HE.out.2.1, ← HE.out.2.2] at HYT
              clear h10 hk10 hb10 HTK d0 d1
              go_wp2_with fail
              refine HYT.out.mono ?_
              rintro e w11 ⟨rfl, _, hw11⟩
              clear HYT e1
              go_wp2_with fail
              go_meet
              exact ⟨p2, rfl, (by have h := hw11.y.le; rw [bitsOf_length, ← HNB.out.1] at h; have := HNB.out.2; omega), (show J _ _ _ _ _ _ _ _ _ _ _ _ from hw11.less (fun _ e => e.elim))⟩
          · as_aux_lemma =>
              obtain ⟨t1, ht1⟩ : ∃ t, t = (takeV (bitsOf bb) p xn).1 := ⟨_, rfl⟩
              obtain ⟨t2, ht2⟩ : ∃ t, t = (takeV (bitsOf bb) p xn).2 := ⟨_, rfl⟩
              obtain ⟨p2, hp2⟩ : ∃ p2, p2 = takeA (bitsOf bb) p xn := ⟨_, rfl⟩
              have HTK := Lib.hid (H9.out.take HPP.out xn HOK.out.n)
              rw [← ht1, ← ht2, ← hp2] at HTK
              have HE := Lib.hid (⟨ht1, ht2, hp2⟩ : _ ∧ _ ∧ _)
              clear ht1 ht2 hp2
              go_wp2_with fail
              refine HTK.out.mono ?_
              rintro e w10 ⟨rfl, hk10, h10⟩
              have hb10 := (hk10 g9 rfl).trans HB9.out
              have e1 : w10.cell? ⟨g9, 1, none⟩ = some (.int .i64 xn) := (cellAt hb10 1).trans rfl
              have HYT := Lib.hid (h10.ytake HPP.out xn HOK.out.n)
              rw [← HE.out.1, ← HE.out.2.1, ← HE.out.2.2] at HYT
              clear h10 hk10 hb10 HTK d0 d1
              go_wp2_with fail
              refine HYT.out.mono ?_
              rintro e w11 ⟨rfl, _, hw11⟩
              clear HYT e1
              go_wp2_with fail
              go_meet
              exact ⟨p2, rfl, (by have h := hw11.y.le; rw [bitsOf_length, ← HNB.out.1] at h; have := HNB.out.2; omega), (show J _ _ _ _ _ _ _ _ _ _ _ _ from hw11.less (fun _ e => e.elim))⟩
          · as_aux_lemma =>
              obtain ⟨t1, ht1⟩ : ∃ t, t = peekV (bitsOf bb) p xn := ⟨_, rfl⟩
              have HPK := Lib.hid (fun m : Nat => quiet_calm2 ((H9.out.still HPP.out ((Fr.refl (fun _ => False) w9).drewN m)).peek HPP.out xn HOK.out.n))
              have HYP := Lib.hid (fun m : Nat => quiet_calm2 ((H9.out.still HPP.out ((Fr.refl (fun _ => False) w9).drewN m)).ypeek xn HOK.out.n))
              rw [← ht1] at HPK HYP
              clear ht1
              go_wp2_with fail
              go_quiet ((first
                | (go_at_call 14; exact HPK.out _)
                | (go_at_call 15; exact HYP.out _)))
              obtain ⟨w11, hw11e⟩ : ∃ w11, w11 = w9.drewN nq := ⟨_, rfl⟩
              have hw11 := H9.out.still HPP.out ((Fr.refl (fun _ => False) w9).drewN nq)
              rw [← hw11e] at hw11 ⊢
              clear hw11e HPK HYP d0 d1
              go_wp2_with fail
              go_meet
              exact ⟨p, rfl, hp, (show J _ _ _ _ _ _ _ _ _ _ _ _ from hw11.less (fun _ e => e.elim))⟩
          · as_aux_lemma =>
              obtain ⟨t1, ht1⟩ : ∃ t, t = (takeV (bitsOf bb) p xn).1 := ⟨_, rfl⟩
              obtain ⟨t2, ht2⟩ : ∃ t, t = (takeV (bitsOf bb) p xn).2 := ⟨_, rfl⟩
              obtain ⟨p2, hp2⟩ : ∃ p2, p2 = takeA (bitsOf bb) p xn := ⟨_, rfl⟩
              have HTK := Lib.hid (H9.out.skip HPP.out xn HOK.out.n)
              rw [← ht2, ← hp2] at HTK
              have HE := Lib.hid (⟨ht1, ht2, hp2⟩ : _ ∧ _ ∧ _)
              clear ht1 ht2 hp2
              go_wp2_with fail
              refine HTK.out.mono ?_
              rintro e w10 ⟨rfl, hk10, h10⟩
              have hb10 := (hk10 g9 rfl).trans HB9.out
              have e1 : w10.cell? ⟨g9, 1, none⟩ = some (.int .i64 xn) := (cellAt hb10 1).trans rfl
              have HYT := Lib.hid (h10.ytake HPP.out xn HOK.out.n)
              rw [← HE.out.1, ← HE.out.2.1, ← HE.out.2.2] at HYT
              clear h10 hk10 hb10 HTK d0 d1
              go_wp2_with fail
              refine HYT.out.mono ?_
              rintro e w11 ⟨rfl, _, hw11⟩
              clear HYT e1
              go_wp2_with fail
              go_meet
              exact ⟨p2, rfl, (by have h := hw11.y.le; rw [bitsOf_length, ← HNB.out.1] at h; have := HNB.out.2; omega), (show J _ _ _ _ _ _ _ _ _ _ _ _ from hw11.less (fun _ e => e.elim))⟩
          · as_aux_lemma =>
              obtain ⟨p2, hp2⟩ : ∃ p2, p2 = alignA p := ⟨_, rfl⟩
              have HTK := Lib.hid (H9.out.align HPP.out)
              rw [← hp2] at HTK
              have HE := Lib.hid hp2
              clear hp2
              go_wp2_with fail
              refine HTK.out.mono ?_
              rintro e w10 ⟨rfl, hk10, h10⟩
              have HYT := Lib.hid (h10.yalign HPP.out)
              rw [← HE.out] at HYT
              clear h10 hk10 HTK d0 d1
              go_wp2_with fail
              refine HYT.out.mono ?_
              rintro e w11 ⟨⟨v, rfl⟩, _, hw11⟩
              clear HYT
              go_wp2_with fail
              go_meet
              exact ⟨p2, rfl, (by have h := hw11.y.le; rw [bitsOf_length, ← HNB.out.1] at h; have := HNB.out.2; omega), (show J _ _ _ _ _ _ _ _ _ _ _ _ from hw11.less (fun _ e => e.elim))⟩
          · as_aux_lemma =>
              obtain ⟨r1, hr1⟩ : ∃ t, t = (bytesV (bitsOf bb) p xn).1 := ⟨_, rfl⟩
              obtain ⟨t2, ht2⟩ : ∃ t, t = (bytesV (bitsOf bb) p xn).2 := ⟨_, rfl⟩
              obtain ⟨p2, hp2⟩ : ∃ p2, p2 = bytesA (bitsOf bb) p xn := ⟨_, rfl⟩
              have hr1l : r1.length ≤ 12500000 := by rw [hr1]; exact bytesV_len (by rw [bitsOf_length, ← HNB.out.1]; have := HNB.out.2; omega)
              have HTK := Lib.hid (H9.out.bytes HPP.out xn HOK.out.n)
              rw [← hr1, ← ht2, ← hp2] at HTK
              have HE := Lib.hid (⟨hr1, ht2, hp2⟩ : _ ∧ _ ∧ _)
              obtain ⟨m, hm⟩ : ∃ m, m = r1.length := ⟨_, rfl⟩
              have HM := Lib.hid hm
              rw [← hm] at HTK hr1l
              clear hr1 ht2 hp2 hm
              go_wp2_with fail
              refine HTK.out.mono ?_
              rintro e w10 ⟨Ac, cc, rfl, ho, hk10, h10⟩
              have hb10 := (hk10 g9 rfl).trans HB9.out
              have e1 : w10.cell? ⟨g9, 1, none⟩ = some (.int .i64 xn) := (cellAt hb10 1).trans rfl
              have HO := Lib.hid ho
              have HYT := Lib.hid (h10.ybytes HPP.out xn HOK.out.n)
              rw [← HE.out.1, ← HE.out.2.1, ← HE.out.2.2, ← HM.out] at HYT
              clear h10 hk10 hb10 HTK d0 d1 ho
              go_wp2_with fail
              refine HYT.out.mono ?_
              rintro e w11 ⟨Ad, cd, rfl, hrd, hk11, hw11⟩
              have HO11 : Hid (Own w11 w9.heap.size (.slice Ac r1.length cc) r1) := Lib.hid (by
                have h := HO.out
                rw [HM.out] at h
                exact own_kp h (fun g hg => hk11 g (Or.inr (by rw [HM.out]; exact hg))))
              have HSB := Lib.hid (same_any w11 Ac Ad w11.heap.size w11.heap.size cc cd r1 r1 (Own.rd HO11.out) hrd (by rw [← HM.out]; omega))
              rw [decide_eq_true rfl, ← HM.out] at HSB
              have HJ11 := Lib.hid hw11
              clear hrd hk11 HYT e1 hw11
              go_wp2_with fail
              refine HSB.out.mono ?_
              rintro e w12 ⟨rfl, hC⟩
              have H12 := Lib.hid (⟨HJ11.out.still HPP.out hC.fr, by rw [HM.out]; exact HO11.out.kept hC.fr⟩ : J R w ob lo yb Ao a bb (fun i => i = g9 ∨ (Value.slice Ac m cc).ownBlock = some i) w12 p2 p2 ∧ Own w12 w9.heap.size (.slice Ac m cc) r1)
              clear hC HSB
              go_wp2_with fail
              go_loopw [22] (fun v22 wq => ∃ j : Nat, j ≤ m ∧ v22 = .int .i64 j ∧ Hid (J R w ob lo yb Ao a bb (fun i => i = g9 ∨ (Value.slice Ac m cc).ownBlock = some i) wq p2 p2 ∧ ∃ lst : List UInt8, lst.length = m ∧ Own wq w9.heap.size (.slice Ac m cc) lst)) (fun v _ => m - (intOf v).toNat)
              case atStart => exact ⟨0, Nat.zero_le _, rfl, (show _ ∧ _ from ⟨H12.out.1, r1, HM.out.symm, H12.out.2⟩)⟩
              case round =>
                obtain ⟨j, hj, rfl, HQ⟩ := hrel
                clear H12
                by_cases hltj : j < m
                · obtain ⟨lst, hll, hol⟩ := HQ.out.2
                  have hol2 := hol
                  rw [← hll] at hol2
                  obtain ⟨g, rfl, hg, hg2, hc, hf, hset⟩ := Own.at_ hol2 (k := j) (by omega)
                  have hnew := hset 255
                  rw [List.length_set, hll] at hnew
                  have HNEW := Lib.hid (⟨HQ.out.1.xaft HPP.out ((Fr.refl _ wr).setCell (p := ⟨g, j, none⟩) (Or.inl (Or.inr rfl)) (.int .u8 255)), lst.set j 255, by rw [List.length_set, hll], hnew⟩ : J R w ob lo yb Ao a bb (fun i => i = g9 ∨ (Value.slice (some ⟨g, 0, none⟩) m cc).ownBlock = some i) (wr.setCell ⟨g, j, none⟩ (.int .u8 255)) p2 p2 ∧ ∃ lst : List UInt8, lst.length = m ∧ Own (wr.setCell ⟨g, j, none⟩ (.int .u8 255)) w9.heap.size (.slice (some ⟨g, 0, none⟩) m cc) lst)
                  generalize (lst[j]'(by omega)).toNat = z at hc
                  clear hset hnew hol hol2 hll hg hg2
                  go_wp2_with fail
                  go_roundw
                  case rel => exact ⟨j + 1, by omega, by go_num, HNEW⟩
                  case measure => simp [intOf]; omega
                · have hwr := HQ.out.1
                  go_wp2_with fail
                  go_meet
                  exact ⟨p2, rfl, (by have h := hwr.y.le; rw [bitsOf_length, ← HNB.out.1] at h; have := HNB.out.2; omega), (show J _ _ _ _ _ _ _ _ _ _ _ _ from hwr.less (fun _ e => e.elim))⟩
        obtain ⟨p2, rfl, hp2, HJ⟩ := hcut
        clear d0 d1 H9 HB9
        go_wp2_with fail
        obtain ⟨Ay, cy, hby, -, -⟩ := HJ.out.y.cell
        have y0 : wc.cell? ⟨yb, 0, none⟩ = some (.slice Ay (bitsOf bb).length cy) := (cellAt hby 0).trans rfl
        have y1 : wc.cell? ⟨yb, 1, none⟩ = some (.int .i64 (p2 : Int)) := (cellAt hby 1).trans rfl
        rw [bitsOf_length, ← HNB.out.1] at y0
        have hple : p2 ≤ 8 * nb := by have h := HJ.out.y.le; rw [bitsOf_length, ← HNB.out.1] at h; exact h
        obtain ⟨nL, hnL⟩ : ∃ nL, nL = 8 * nb := ⟨_, rfl⟩
        rw [← hnL] at y0
        obtain ⟨lf, hlf⟩ : ∃ lf, lf = 8 * nb - p2 := ⟨_, rfl⟩
        have hwl : IntKind.i64.wrap ((nL : Int) - (p2 : Int)) = (lf : Int) := by rw [show (nL : Int) - (p2 : Int) = (lf : Int) by omega]; exact IntWalk.i64_in _ (by have := HNB.out.2; omega)
        have HAT := Lib.hid (fun m : Nat => quiet_calm2 ((HJ.out.still HPP.out ((Fr.refl (fun _ => False) wc).drewN m)).at_ HPP.out))
        have HLE := Lib.hid (fun m : Nat => quiet_calm2 ((HJ.out.still HPP.out ((Fr.refl (fun _ => False) wc).drewN m)).left HPP.out))
        rw [← HNB.out.1, ← hlf] at HLE
        have HPL := Lib.hid hple
        clear hby hnL hlf hple
        go_quiet ((first
          | (go_at_call 22; exact HAT.out _)
          | (go_at_call 23; exact HLE.out _)))
        go_wp2_with fail
        go_roundw
        case rel => exact ⟨k + 1, p2, by omega, by omega, by go_num, (show J _ _ _ _ _ _ _ _ _ _ _ _ from HJ.out.still HPP.out ((Fr.refl (fun _ => False) wc).drewN nq))⟩
        case measure => simp [intOf]; omega
      · go_wp2_with fail
        refine (HEND.out _ HK.out).mono ?_
        rintro e w5 ⟨rfl, hC⟩
        have HF5 := Lib.hid (HK.out.fr.trans hC.fr (fun _ _ e => e))
        clear hC
        go_wp2_with fail
        refine (fworks HPP.out w5).mono ?_
        rintro e w6 ⟨rfl, hF6⟩
        have HF6 := Lib.hid (HF5.out.trans hF6 (fun _ _ e => e))
        clear hF6
        go_wp2_with fail
        go_ret
        exact ⟨rfl, HF6.out⟩
    · go_wp2_with fail
      refine (HEND.out _ HK.out).mono ?_
      rintro e w5 ⟨rfl, hC⟩
      have HF5 := Lib.hid (HK.out.fr.trans hC.fr (fun _ _ e => e))
      clear hC
      go_wp2_with fail
      refine (fworks HPP.out w5).mono ?_
      rintro e w6 ⟨rfl, hF6⟩
      have HF6 := Lib.hid (HF5.out.trans hF6 (fun _ _ e => e))
      clear hF6
      go_wp2_with fail
      go_ret
      exact ⟨rfl, HF6.out⟩
end
end Go.Proofs.Ytddkgihobcjmmaa.fl
