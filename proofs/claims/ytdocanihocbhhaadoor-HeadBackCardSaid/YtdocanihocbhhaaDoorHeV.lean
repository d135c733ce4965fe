/-
  HeadReads, HeadWrites over what is asked of the program's headers.
-/
import Derived.Test.YtdocanihocbhhaaDoorHeY
namespace Go.Proofs.YtdocanihocbhhaaDoor.he
set_option maxRecDepth 100000
open Go.RowKit Go.Maps
set_option maxRecDepth 100000

set_option maxHeartbeats 8000000 in
theorem reads_walk {D : World → Prop} (HP : HeadP D) (w : World) (hD : D w) (A : Option Addr) (cap : Nat) (bb : Bts) (hr : Rd w w.heap.size A bb) (hA : A = none → cap = 0) (hc : bb.length ≤ cap) (hb : bb.length ≤ 140737488351232) :
    Calls Tryd.prog 3 #[.slice A bb.length cap] w fun e w' => e = .returned (.bool true) ∧ Fr (fun _ => False) w w' := by
  have HPP := Lib.hid HP
  have HDD := Lib.hid hD
  have HR := Lib.hid (fun wx (hF : Fr (fun _ => False) w wx) => ((hr.still hF (Nat.le_refl _)).more hF.size : Rd wx wx.heap.size A bb))
  have HBY := Lib.hid (bytes_any w A cap bb hr hA hb)
  have HPI := Lib.hid (fun wx (hF : Fr (fun _ => False) w wx) => rparse wx A cap bb (HR.out wx hF) hc hb)
  have HSI := Lib.hid (fun wx (hF : Fr (fun _ => False) w wx) => rsum wx A cap wx.heap.size bb (HR.out wx hF) hb)
  have HEI := Lib.hid (fun wx (hF : Fr (fun _ => False) w wx) => rempty wx A cap wx.heap.size bb (HR.out wx hF) hb)
  have HOW := Lib.hid (fun wx w1 A1 c1 (ho : Own w1 w.heap.size (.slice A1 bb.length c1) bb) (hF : Fr (fun _ => False) w1 wx) => ((ho.rd.still hF (Nat.le_refl _)).more hF.size : Rd wx wx.heap.size A1 bb))
  have HPA := Lib.hid (fun wx A1 c1 (h1 : Rd wx wx.heap.size A1 bb) (h2 : A1 = none → c1 = 0) (h3 : bb.length ≤ c1) (hd : D wx) => HP.parse wx A1 c1 bb h1 h2 h3 hb hd)
  have HSA := Lib.hid (fun wx A1 c1 (h1 : Rd wx wx.heap.size A1 bb) (h2 : A1 = none → c1 = 0) (h3 : bb.length ≤ c1) (hd : D wx) => HP.sum wx A1 c1 bb h1 h2 h3 hb hd)
  have HEA := Lib.hid (fun wx A1 c1 (h1 : Rd wx wx.heap.size A1 bb) (h2 : A1 = none → c1 = 0) (h3 : bb.length ≤ c1) (hd : D wx) (hm : c1 ≤ maxLen) => HP.empty wx A1 c1 bb h1 h2 h3 hb hd hm)
  have HSB := Lib.hid (fun wx A1 c1 (h1 : Rd wx wx.heap.size A1 bb) (hF : Fr (fun _ => False) w wx) => same_any wx A1 A wx.heap.size wx.heap.size c1 cap bb bb h1 (HR.out wx hF) hb)
  obtain ⟨⟨h, z⟩, hB⟩ : ∃ B, parseV bb = B := ⟨_, rfl⟩
  obtain ⟨a, ha⟩ : ∃ v : ByteArray, v = ⟨h.name.toArray⟩ := ⟨_, rfl⟩
  obtain ⟨b, hb2⟩ : ∃ v : ByteArray, v = ⟨h.link.toArray⟩ := ⟨_, rfl⟩
  obtain ⟨c, hc2⟩ : ∃ v, v = h.mode := ⟨_, rfl⟩
  obtain ⟨d, hd⟩ : ∃ v, v = h.size := ⟨_, rfl⟩
  obtain ⟨k, hk⟩ : ∃ v : Int, v = (h.kind.toNat : Int) := ⟨_, rfl⟩
  have hv : hdV (parseV bb).1 = .agg #[.string a, .string b, .int .i64 c, .int .i64 d, .int .u8 k] := by rw [hB, ha, hb2, hc2, hd, hk]
  have hz : (parseV bb).2 = z := by rw [hB]
  rw [hv, hz] at HPA HPI
  obtain ⟨n, hn⟩ : ∃ n, n = bb.length := ⟨_, rfl⟩
  have HN := Lib.hid hn
  rw [decide_eq_true rfl] at HSB
  rw [← hn] at HBY HPI HSI HEI HOW HPA HSA HEA HSB ⊢
  obtain ⟨s, hs⟩ : ∃ s, s = sumV bb := ⟨_, rfl⟩
  rw [← hs] at HSI HSA
  obtain ⟨t, ht⟩ : ∃ t, t = emptyV bb := ⟨_, rfl⟩
  rw [← ht] at HEI HEA
  clear HP hD hr hA hc hb hB ha hb2 hc2 hd hk hv hz hn hs ht
  go_enter Tryd.func3, Tryd.ntmps3
  go_wp2_with fail
  refine HBY.out.mono ?_
  rintro e w1 ⟨A1, c1, rfl, ho, hF1⟩
  obtain ⟨q1, q2⟩ := own_cap3 ho
  have q3 := own_max ho
  rw [← HN.out] at ho q2 ⊢
  have HO := Lib.hid ho
  have HF1 := Lib.hid hF1
  have HA1 := Lib.hid (⟨q1, q2, q3⟩ : (A1 = none → c1 = 0) ∧ n ≤ c1 ∧ c1 ≤ maxLen)
  have H1 := Lib.hid (HPA.out w1 A1 c1 (HOW.out w1 w1 A1 c1 ho (Fr.refl _ w1)) HA1.out.1 HA1.out.2.1 (HPP.out.d_keep HDD.out hF1))
  clear ho hF1 HBY HPA q1 q2 q3
  go_wp2_with fail
  refine H1.out.mono ?_
  rintro e w2 ⟨rfl, hF2⟩
  obtain ⟨o, hoo⟩ : ∃ o : Obj, o = rec5 (.string a) (.string b) (.int .i64 c) (.int .i64 d) (.int .u8 k) := ⟨_, rfl⟩
  have HF2 := Lib.hid (⟨(HF1.out.trans hF2 (fun _ _ e => e)).alloc o, hF2.alloc o⟩ : Fr (fun _ => False) w (w2.alloc o) ∧ Fr (fun _ => False) w1 (w2.alloc o))
  have H2 := Lib.hid (HPI.out _ HF2.out.1)
  rw [hoo] at HF2 H2
  clear hF2 HPI H1 hoo
  go_wp2_with fail
  refine H2.out.mono ?_
  rintro e w3 ⟨rfl, hF3⟩
  obtain ⟨d0, d1, d2, d3, d4⟩ := rec_cells (w := w3) (w' := w3.alloc (rec5 (.string a) (.string b) (.int .i64 c) (.int .i64 d) (.int .u8 k))) (Fr.refl _ _)
  obtain ⟨e0, e1, e2, e3, e4⟩ := rec_cells (hF3.alloc (rec5 (.string a) (.string b) (.int .i64 c) (.int .i64 d) (.int .u8 k)))
  have HF3 := Lib.hid (⟨(HF2.out.1.trans hF3 (fun _ _ e => e)).alloc (rec5 (.string a) (.string b) (.int .i64 c) (.int .i64 d) (.int .u8 k)), (HF2.out.2.trans hF3 (fun _ _ e => e)).alloc (rec5 (.string a) (.string b) (.int .i64 c) (.int .i64 d) (.int .u8 k))⟩ : _ ∧ _)
  have H3 := Lib.hid (HSA.out _ A1 c1 (HOW.out _ w1 A1 c1 HO.out HF3.out.2) HA1.out.1 HA1.out.2.1 (HPP.out.d_keep HDD.out HF3.out.1))
  clear hF3 H2 HSA
  go_wp2_with fail
  refine H3.out.mono ?_
  rintro e w4 ⟨rfl, hF4⟩
  have HF4 := Lib.hid (⟨HF3.out.1.trans hF4 (fun _ _ e => e), HF3.out.2.trans hF4 (fun _ _ e => e)⟩ : _ ∧ _)
  have H4 := Lib.hid (HSI.out _ HF4.out.1)
  clear hF4 H3 HSI d0 d1 d2 d3 d4 e0 e1 e2 e3 e4
  go_wp2_with fail
  refine H4.out.mono ?_
  rintro e w' ⟨rfl, rfl⟩
  have H5 := Lib.hid (HEA.out _ A1 c1 (HOW.out _ w1 A1 c1 HO.out HF4.out.2) HA1.out.1 HA1.out.2.1 (HPP.out.d_keep HDD.out HF4.out.1) HA1.out.2.2)
  clear H4 HEA
  go_wp2_with fail
  refine H5.out.mono ?_
  rintro e w5 ⟨rfl, hF5⟩
  have HF5 := Lib.hid (⟨HF4.out.1.trans hF5 (fun _ _ e => e), HF4.out.2.trans hF5 (fun _ _ e => e)⟩ : _ ∧ _)
  have H6 := Lib.hid (HEI.out _ HF5.out.1)
  clear hF5 H5 HEI
  go_wp2_with fail
  refine H6.out.mono ?_
  rintro e w' ⟨rfl, rfl⟩
  have H7 := Lib.hid (HSB.out _ A1 c1 (HOW.out _ w1 A1 c1 HO.out HF5.out.2) HF5.out.1)
  clear H6 HSB
  go_wp2_with fail
  refine H7.out.mono ?_
  rintro e w6 ⟨rfl, hC6⟩
  have HF6 := Lib.hid (HF5.out.1.trans hC6.fr (fun _ _ e => e))
  have H8 := Lib.hid (works_any HPP.out w6 (HPP.out.d_keep HDD.out HF6.out))
  clear hC6 H7
  go_wp2_with fail
  refine H8.out.mono ?_
  rintro e w7 ⟨rfl, hF7⟩
  have HF7 := Lib.hid (HF6.out.trans hF7 (fun _ _ e => e))
  clear hF7 H8
  go_wp2_with fail
  go_ret
  exact ⟨rfl, HF7.out⟩
set_option maxHeartbeats 8000000 in
theorem writes_walk {D : World → Prop} (HP : HeadP D) (w : World) (hD : D w) (h : Hd) (hw : WfH h) : Calls Tryd.prog 5 #[hdV h] w fun e w' => e = .returned (.bool true) ∧ Fr (fun _ => False) w w' := by
  have HPP := Lib.hid HP
  have HDD := Lib.hid hD
  have HPR := Lib.hid (fun w1 hd => HP.print w1 h hw hd)
  have HRP := Lib.hid (fun w1 => rprint w1 h hw)
  have HLN := Lib.hid (show (printV h).1.length ≤ 512 from by
    by_cases hz : (printV h).2 = 0
    · rw [(print_sum (h := h) (b := (printV h).1) (Prod.ext rfl hz)).1]
      exact Nat.le_refl _
    · rw [(print_no (h := h) (b := (printV h).1) (z := (printV h).2) rfl hz).1]
      exact Nat.zero_le _)
  obtain ⟨⟨B, z⟩, hB⟩ : ∃ B, printV h = B := ⟨_, rfl⟩
  rw [hB] at HPR HRP HLN
  obtain ⟨a, ha⟩ : ∃ v : ByteArray, v = ⟨h.name.toArray⟩ := ⟨_, rfl⟩
  obtain ⟨b, hb⟩ : ∃ v : ByteArray, v = ⟨h.link.toArray⟩ := ⟨_, rfl⟩
  obtain ⟨c, hc⟩ : ∃ v, v = h.mode := ⟨_, rfl⟩
  obtain ⟨d, hd⟩ : ∃ v, v = h.size := ⟨_, rfl⟩
  obtain ⟨k, hk⟩ : ∃ v : Int, v = (h.kind.toNat : Int) := ⟨_, rfl⟩
  have hv : hdV h = .agg #[.string a, .string b, .int .i64 c, .int .i64 d, .int .u8 k] := by rw [ha, hb, hc, hd, hk]
  rw [hv] at HPR HRP ⊢
  have HF0 := Lib.hid ((Fr.refl (fun _ => False) w).alloc (rec5 (.string a) (.string b) (.int .i64 c) (.int .i64 d) (.int .u8 k)))
  have H1 := Lib.hid (HPR.out _ (HPP.out.d_keep HDD.out HF0.out))
  clear HP hw hD hB hv ha hb hc hd hk HPR
  go_enter Tryd.func5, Tryd.ntmps5
  go_wp2_with fail
  refine H1.out.mono ?_
  rintro e w1 ⟨A1, cp1, rfl, ho1, hF1⟩
  obtain ⟨c0, c1, c2, c3, c4⟩ := rec_cells hF1
  have HF1 := Lib.hid (HF0.out.trans hF1 (fun _ _ e => e))
  have HO1 := Lib.hid ho1
  have H2 := Lib.hid (HRP.out w1)
  clear hF1 ho1 H1 HRP
  go_wp2_with fail
  refine H2.out.mono ?_
  intro e w2 hP
  obtain ⟨A2, cp2, rfl, ho2, hF2⟩ := hP
  have HF2 := Lib.hid (HF1.out.trans hF2 (fun _ _ e => e))
  have H3 := Lib.hid (same_any w2 A1 A2 w2.heap.size w2.heap.size cp1 cp2 B B ((HO1.out.rd.still hF2 (Nat.le_refl _)).more hF2.size) ho2.rd (by have := HLN.out; exact Nat.le_trans this (by decide)))
  rw [decide_eq_true rfl] at H3
  clear c0 c1 c2 c3 c4 ho2 hF2 H2
  obtain ⟨n, hn⟩ : ∃ n, n = B.length := ⟨_, rfl⟩
  simp only []
  rw [← hn] at H3 ⊢
  clear hn
  go_wp2_with fail
  refine H3.out.mono ?_
  rintro e w3 ⟨rfl, hC3⟩
  have HF3 := Lib.hid (HF2.out.trans hC3.fr (fun _ _ e => e))
  have H4 := Lib.hid (works_any HPP.out w3 (HPP.out.d_keep HDD.out HF3.out))
  clear hC3 H3
  go_wp2_with fail
  refine H4.out.mono ?_
  rintro e w4 ⟨rfl, hF4⟩
  have HF4 := Lib.hid (HF3.out.trans hF4 (fun _ _ e => e))
  clear hF4 H4
  go_wp2_with fail
  go_ret
  exact ⟨rfl, HF4.out⟩
end Go.Proofs.YtdocanihocbhhaaDoor.he
