/-
  HeadBack, HeadWithin over what is asked of the program's headers.
-/
import Derived.Test.YtdocanihocbhhaaDoorHeQ
namespace Go.Proofs.YtdocanihocbhhaaDoor.he
set_option maxRecDepth 100000
open Go.RowKit Go.Maps
set_option maxRecDepth 100000

theorem own_cap3 {w : World} {base n cap size : Nat} {t : TypeId} {A : Option Addr} {xs : List Value} (h : w.ownsRow base t size (.slice A n cap) n xs) : (A = none → cap = 0) ∧ n ≤ cap := by
  rcases h.2 with ⟨e, h0⟩ | ⟨g, cap', cur, e, hg, hh, hn, _⟩
  · cases e
    exact ⟨fun _ => rfl, Nat.le_refl _⟩
  · cases e
    exact ⟨fun e => (by cases e), hn⟩
theorem own_max {w : World} {base n cap size : Nat} {t : TypeId} {A : Option Addr} {xs : List Value} (h : w.ownsRow base t size (.slice A n cap) n xs) : cap ≤ maxLen := by
  rcases h.2 with ⟨e, h0⟩ | ⟨g, cap', cur, e, hg, hh, hn, hm, _⟩
  · cases e
    exact Nat.zero_le _
  · cases e
    exact hm
/-- A header as a record, and where it lies as a variable of its own. -/
abbrev rec5 (a b c d e : Value) : Obj := .cells #[a, b, c, d, e] 25
theorem rec_cells {w w' : World} {a b c d e : Value} (hF : Fr (fun _ => False) (w.alloc (rec5 a b c d e)) w') :
    w'.cell? ⟨w.heap.size, 0, none⟩ = some a ∧ w'.cell? ⟨w.heap.size, 1, none⟩ = some b ∧ w'.cell? ⟨w.heap.size, 2, none⟩ = some c ∧ w'.cell? ⟨w.heap.size, 3, none⟩ = some d ∧ w'.cell? ⟨w.heap.size, 4, none⟩ = some e := by
  have hb : w'.heap[w.heap.size]? = some (rec5 a b c d e) := by
    rw [hF.block w.heap.size (by rw [World.size_alloc]; omega) (fun e => e)]
    exact heap_alloc_new _ _
  unfold World.cell?
  rw [hb]
  exact ⟨rfl, rfl, rfl, rfl, rfl⟩
set_option maxHeartbeats 4000000 in
theorem back_walk {D : World → Prop} (HP : HeadP D) (w : World) (h : Hd) (hw : WfH h) (hD : D w) : Calls Tryd.prog 6 #[hdV h] w fun e w' => e = .returned (.bool true) ∧ Fr (fun _ => False) w w' := by
  have HPP := Lib.hid HP
  have HDD := Lib.hid hD
  have HW := Lib.hid (fun w hd => works_any HP w hd)
  have HPR := Lib.hid (fun w1 hd => HP.print w1 h hw hd)
  have HH := Lib.hid (fun b hp => parse_print (h := h) (b := b) hp)
  have HS := Lib.hid (fun b hp => print_sum (h := h) (b := b) hp)
  have HN := Lib.hid (fun b z hp hz => print_no (h := h) (b := b) (z := z) hp hz)
  obtain ⟨⟨B, z⟩, hB⟩ : ∃ B, printV h = B := ⟨_, rfl⟩
  have HB := Lib.hid hB
  rw [hB] at HPR
  obtain ⟨a, ha⟩ : ∃ v : ByteArray, v = ⟨h.name.toArray⟩ := ⟨_, rfl⟩
  obtain ⟨b, hb⟩ : ∃ v : ByteArray, v = ⟨h.link.toArray⟩ := ⟨_, rfl⟩
  obtain ⟨c, hc⟩ : ∃ v, v = h.mode := ⟨_, rfl⟩
  obtain ⟨d, hd⟩ : ∃ v, v = h.size := ⟨_, rfl⟩
  obtain ⟨k, hk⟩ : ∃ v : Int, v = (h.kind.toNat : Int) := ⟨_, rfl⟩
  have hv : hdV h = .agg #[.string a, .string b, .int .i64 c, .int .i64 d, .int .u8 k] := by rw [ha, hb, hc, hd, hk]
  have HV := Lib.hid hv
  rw [hv] at HPR ⊢
  clear HP hw hD hB hv ha hb hc hd hk
  go_enter Tryd.func6, Tryd.ntmps6
  go_wp2_with fail
  refine (HW.out _ (HPP.out.d_keep HDD.out ((Fr.refl _ w).alloc _))).mono ?_
  rintro e w1 ⟨rfl, hF1⟩
  obtain ⟨c0, c1, c2, c3, c4⟩ := rec_cells hF1
  have HF1 := Lib.hid (⟨((Fr.refl (fun _ => False) w).alloc _).trans hF1 (fun _ _ e => e), hF1⟩ : _ ∧ _)
  have HPR1 := Lib.hid (HPR.out w1 (HPP.out.d_keep HDD.out HF1.out.1))
  clear hF1 HPR
  go_wp2_with fail
  refine HPR1.out.mono ?_
  rintro e w2 ⟨A, cap, rfl, ho, hF2⟩
  have HF2 := Lib.hid (⟨hF2, HF1.out.1.trans hF2 (fun _ _ e => e), ho⟩ : _ ∧ _ ∧ _)
  by_cases hz : z = 0
  case neg =>
    have hl := (HN.out _ _ HB.out hz).1
    have hzz : (z != 0) = true := bne_iff_ne.2 hz
    rw [hl]
    clear ho hF2 c0 c1 c2 c3 c4 hl hz
    go_wp2_with fail
    go_ret
    exact ⟨rfl, HF2.out.2.1⟩
  case pos =>
    subst hz
    have hl := (HS.out _ HB.out).1
    have HPA := Lib.hid (HPP.out.parse w2 A cap B ho.rd (own_cap3 ho).1 (own_cap3 ho).2 (by rw [hl]; omega) (HPP.out.d_keep HDD.out HF2.out.2.1))
    rw [(HH.out _ HB.out).1] at HPA
    have HPA := Lib.hid (show Calls Tryd.prog 10 #[.slice A B.length cap] w2 fun e w' => e = .returned (.tuple #[hdV h, .int .i64 0]) ∧ Fr (fun _ => False) w2 w' from HPA.out)
    rw [HV.out, hl] at HPA
    have HE := Lib.hid (fun wx (hF : Fr (fun _ => False) w2 wx) => HPP.out.empty wx A cap B (ho.rd.still hF (Nat.le_refl _) |>.more hF.size) (own_cap3 ho).1 (own_cap3 ho).2 (by rw [hl]; omega) (HPP.out.d_keep HDD.out (HF2.out.2.1.trans hF (fun _ _ e => e))) (own_max ho))
    rw [(HH.out _ HB.out).2, hl] at HE
    rw [hl]
    clear ho hF2 c0 c1 c2 c3 c4 hl
    go_wp2_with fail
    refine HPA.out.mono ?_
    rintro e w3 ⟨rfl, hF3⟩
    obtain ⟨d0, d1, d2, d3, d4⟩ := rec_cells (w := w3) (w' := w3.alloc (rec5 (.string a) (.string b) (.int .i64 c) (.int .i64 d) (.int .u8 k))) (Fr.refl _ _)
    have hF13 : Fr (fun _ => False) (w.alloc (rec5 (.string a) (.string b) (.int .i64 c) (.int .i64 d) (.int .u8 k))) (w3.alloc (rec5 (.string a) (.string b) (.int .i64 c) (.int .i64 d) (.int .u8 k))) := ((HF1.out.2.trans HF2.out.1 (fun _ _ e => e)).trans hF3 (fun _ _ e => e)).alloc _
    obtain ⟨e0, e1, e2, e3, e4⟩ := rec_cells hF13
    have HF3 := Lib.hid (⟨(HF2.out.2.1.trans hF3 (fun _ _ e => e)).alloc _, hF3.alloc _⟩ : Fr (fun _ => False) w (w3.alloc (rec5 (.string a) (.string b) (.int .i64 c) (.int .i64 d) (.int .u8 k))) ∧ Fr (fun _ => False) w2 (w3.alloc (rec5 (.string a) (.string b) (.int .i64 c) (.int .i64 d) (.int .u8 k))))
    have HE2 := Lib.hid (HE.out _ HF3.out.2)
    clear hF3 hF13 HE
    go_wp2_with fail
    refine HE2.out.mono ?_
    rintro e w4 ⟨rfl, hF4⟩
    have HF4 := Lib.hid (HF3.out.1.trans hF4 (fun _ _ e => e))
    clear hF4
    go_wp2_with fail
    go_ret
    exact ⟨rfl, HF4.out⟩
theorem str_ne {l : Bts} (h : l ≠ []) : ((⟨l.toArray⟩ : ByteArray).toList == (⟨#[]⟩ : ByteArray).toList) = false ∧ ((⟨l.toArray⟩ : ByteArray).toList == []) = false := by
  have e : (⟨l.toArray⟩ : ByteArray).toList = l := tx_toL l
  have e2 : (⟨#[]⟩ : ByteArray).toList = [] := tx_toL []
  rw [e, e2]
  exact ⟨beq_eq_false_iff_ne.2 h, beq_eq_false_iff_ne.2 h⟩
set_option maxHeartbeats 4000000 in
theorem within_walk {D : World → Prop} (HP : HeadP D) (w : World) (hD : D w) (A : Option Addr) (cap : Nat) (bb : Bts) (hr : Rd w w.heap.size A bb) (hA : A = none → cap = 0) (hc : bb.length ≤ cap) (hb : bb.length ≤ 140737488351232) :
    Calls Tryd.prog 8 #[.slice A bb.length cap] w fun e w' => e = .returned (.bool true) ∧ Fr (fun _ => False) w w' := by
  have HPP := Lib.hid HP
  have HW := Lib.hid (works_any HP w hD)
  obtain ⟨⟨h, z⟩, hB⟩ : ∃ B, parseV bb = B := ⟨_, rfl⟩
  have HPA := Lib.hid (fun w1 (hF : Fr (fun _ => False) w w1) => HP.parse w1 A cap bb ((hr.still hF (Nat.le_refl _)).more hF.size) hA hc hb (HP.d_keep hD hF))
  rw [hB] at HPA
  have HPA := Lib.hid (show ∀ w1, Fr (fun _ => False) w w1 → Calls Tryd.prog 10 #[.slice A bb.length cap] w1 fun e w' => e = .returned (.tuple #[hdV h, .int .i64 z]) ∧ Fr (fun _ => False) w1 w' from HPA.out)
  have HB := Lib.hid hB
  obtain ⟨n, hn⟩ : ∃ n, n = bb.length := ⟨_, rfl⟩
  rw [← hn] at HPA ⊢
  clear HP hr hA hc hb hB hn hD
  go_enter Tryd.func8, Tryd.ntmps8
  go_wp2_with fail
  refine HW.out.mono ?_
  rintro e w1 ⟨rfl, hF1⟩
  have HF1 := Lib.hid hF1
  have HPA1 := Lib.hid (HPA.out w1 hF1)
  clear hF1 HPA
  by_cases hz : z = 0
  case neg =>
    have hzz : (z != 0) = true := bne_iff_ne.2 hz
    rw [(parse_no HB.out hz).1] at HPA1
    have HPA1 := Lib.hid (show Calls Tryd.prog 10 #[.slice A n cap] w1 fun e w' => e = .returned (.tuple #[.agg #[.string ⟨#[]⟩, .string ⟨#[]⟩, .int .i64 0, .int .i64 0, .int .u8 0], .int .i64 z]) ∧ Fr (fun _ => False) w1 w' from HPA1.out)
    clear hz
    go_wp2_with fail
    refine HPA1.out.mono ?_
    rintro e w2 ⟨rfl, hF2⟩
    obtain ⟨d0, d1, d2, d3, d4⟩ := rec_cells (w := w2) (w' := w2.alloc (rec5 (.string ⟨#[]⟩) (.string ⟨#[]⟩) (.int .i64 0) (.int .i64 0) (.int .u8 0))) (Fr.refl _ _)
    have HF2 := Lib.hid ((HF1.out.trans hF2 (fun _ _ e => e)).alloc (rec5 (.string ⟨#[]⟩) (.string ⟨#[]⟩) (.int .i64 0) (.int .i64 0) (.int .u8 0)))
    clear hF2
    go_wp2_with fail
    go_ret
    exact ⟨rfl, HF2.out⟩
  case pos =>
    subst hz
    obtain ⟨p1, p2, p3, p4, p5, p6, p7, p8⟩ := parse_within HB.out
    obtain ⟨q1, q1'⟩ := str_ne p1
    have q8 : ((h.kind.toNat : Int) != 0) = true := bne_iff_ne.2 (fun e => p8 (UInt8.toNat_inj.1 (by rw [show (0 : UInt8).toNat = 0 from rfl]; omega)))
    obtain ⟨a, ha⟩ : ∃ v : ByteArray, v = ⟨h.name.toArray⟩ := ⟨_, rfl⟩
    obtain ⟨b, hb⟩ : ∃ v : ByteArray, v = ⟨h.link.toArray⟩ := ⟨_, rfl⟩
    have q2 : (a.size : Int) ≤ 256 := by
      rw [ha]
      have : (⟨h.name.toArray⟩ : ByteArray).size = h.name.length := by simp [ByteArray.size]
      rw [this]; omega
    have q3 : (b.size : Int) ≤ 100 := by
      rw [hb]
      have : (⟨h.link.toArray⟩ : ByteArray).size = h.link.length := by simp [ByteArray.size]
      rw [this]; omega
    rw [← ha] at q1 q1'
    obtain ⟨c, hc⟩ : ∃ v, v = h.mode := ⟨_, rfl⟩
    obtain ⟨d, hd⟩ : ∃ v, v = h.size := ⟨_, rfl⟩
    obtain ⟨k, hk⟩ : ∃ v : Int, v = (h.kind.toNat : Int) := ⟨_, rfl⟩
    rw [← hc] at p4 p5
    rw [← hd] at p6 p7
    rw [← hk] at q8
    have hv : hdV h = .agg #[.string a, .string b, .int .i64 c, .int .i64 d, .int .u8 k] := by rw [ha, hb, hc, hd, hk]
    rw [hv] at HPA1
    clear p1 p2 p3 p8 ha hb hc hd hk hv
    go_wp2_with fail
    refine HPA1.out.mono ?_
    rintro e w2 ⟨rfl, hF2⟩
    obtain ⟨d0, d1, d2, d3, d4⟩ := rec_cells (w := w2) (w' := w2.alloc (rec5 (.string a) (.string b) (.int .i64 c) (.int .i64 d) (.int .u8 k))) (Fr.refl _ _)
    have HF2 := Lib.hid ((HF1.out.trans hF2 (fun _ _ e => e)).alloc (rec5 (.string a) (.string b) (.int .i64 c) (.int .i64 d) (.int .u8 k)))
    clear hF2
    go_wp2_with fail
    go_ret
    exact ⟨rfl, HF2.out⟩
end Go.Proofs.YtdocanihocbhhaaDoor.he
