/-
  HeadFinds over what is asked of the program's headers.
-/
import Derived.Test.YtdocanihocbhhaaDoorHeW
namespace Go.Proofs.YtdocanihocbhhaaDoor.he
set_option maxRecDepth 100000
open Go.RowKit Go.Maps
set_option maxRecDepth 100000

set_option maxHeartbeats 4000000 in
theorem finds_walk {D : World → Prop} (HP : HeadP D) (w : World) (hD : D w) (h : Hd) (hw : WfH h) (z1 : Int) (x : UInt8) :
    Calls Tryd.prog 7 #[hdV h, .int .i64 z1, .int .u8 (x.toNat : Int)] w fun e w' => e = .returned (.bool true) ∧ Fr (fun _ => False) w w' := by
  have HPP := Lib.hid HP
  have HDD := Lib.hid hD
  have HW := Lib.hid (fun w hd => works_any HP w hd)
  have HPR := Lib.hid (fun w1 hd => HP.print w1 h hw hd)
  have HS := Lib.hid (fun b hp => print_sum (h := h) (b := b) hp)
  have HT := Lib.hid (fun b hp => @parse_turned (h := h) (b := b) hp)
  have HN := Lib.hid (fun b z hp hz => print_no (h := h) (b := b) (z := z) hp hz)
  have HA1 := Lib.hid (fun w0 : World => among_nat w0 z1 512 (by omega) (by omega))
  obtain ⟨⟨B, z⟩, hB⟩ : ∃ B, printV h = B := ⟨_, rfl⟩
  have HB := Lib.hid hB
  rw [hB] at HPR
  obtain ⟨a, ha⟩ : ∃ v : ByteArray, v = ⟨h.name.toArray⟩ := ⟨_, rfl⟩
  obtain ⟨b, hb⟩ : ∃ v : ByteArray, v = ⟨h.link.toArray⟩ := ⟨_, rfl⟩
  obtain ⟨c, hc⟩ : ∃ v, v = h.mode := ⟨_, rfl⟩
  obtain ⟨d, hd⟩ : ∃ v, v = h.size := ⟨_, rfl⟩
  obtain ⟨k, hk⟩ : ∃ v : Int, v = (h.kind.toNat : Int) := ⟨_, rfl⟩
  have hv : hdV h = .agg #[.string a, .string b, .int .i64 c, .int .i64 d, .int .u8 k] := by rw [ha, hb, hc, hd, hk]
  have HV := Lib.hid hv
  rw [hv] at HPR ⊢
  clear HP hw hD hB hv ha hb hc hd hk
  go_enter Tryd.func7, Tryd.ntmps7
  go_wp2_with fail
  refine (HW.out _ (HPP.out.d_keep HDD.out ((Fr.refl _ w).alloc _))).mono ?_
  rintro e w1 ⟨rfl, hF1⟩
  have HF1 := Lib.hid (⟨((Fr.refl (fun _ => False) w).alloc _).trans hF1 (fun _ _ e => e), hF1⟩ : _ ∧ _)
  obtain ⟨c0, c1, c2, c3, c4⟩ := rec_cells hF1
  have HPR1 := Lib.hid (HPR.out w1 (HPP.out.d_keep HDD.out HF1.out.1))
  clear hF1 HPR
  go_wp2_with fail
  refine HPR1.out.mono ?_
  rintro e w2 ⟨A, cap, rfl, ho, hF2⟩
  have HF2 := Lib.hid (⟨hF2, HF1.out.1.trans hF2 (fun _ _ e => e), ho⟩ : _ ∧ _ ∧ _)
  clear ho hF2 c0 c1 c2 c3 c4
  go_wp2_with fail
  refine (HA1.out w2).mono ?_
  rintro e w' ⟨j, hj, rfl, rfl⟩
  clear HPR1 HA1
  by_cases hz : z = 0
  case neg =>
    have hzz : (z != 0) = true := bne_iff_ne.2 hz
    clear hz hj
    go_wp2_with fail
    go_ret
    exact ⟨rfl, HF2.out.2.1⟩
  case pos =>
    subst hz
    by_cases hx : x = 0
    case pos =>
      have t1 : ((x.toNat : Int) == 0) = true := by rw [hx]; decide
      clear hx hj
      go_wp2_with fail
      go_ret
      exact ⟨rfl, HF2.out.2.1⟩
    case neg =>
      have t1 : ((x.toNat : Int) == 0) = false := by
        rw [beq_eq_false_iff_ne]
        intro e
        exact hx (UInt8.toNat_inj.1 (by rw [show (0 : UInt8).toNat = 0 from rfl]; omega))
      have HX := Lib.hid hx
      clear hx
      rcases (show ((148 : Int) ≤ j ∧ (j : Int) < 156) ∨ ((148 : Int) ≤ j ∧ ¬ (j : Int) < 156) ∨ ¬ (148 : Int) ≤ j by omega) with ⟨h148, h156⟩ | ⟨h148, h156⟩ | h148
      · go_wp2_with fail
        go_ret
        exact ⟨rfl, HF2.out.2.1⟩
      all_goals
        have hkk : ¬ (148 ≤ j ∧ j < 156) := by omega
        have hl := (HS.out _ HB.out).1
        have hjl : j < B.length := by rw [hl]; exact hj
        obtain ⟨g, rfl, hg, _, hc, hf, hset⟩ := HF2.out.2.2.at_ hjl
        have ho2 := hset (B[j] ^^^ x)
        have hF3 := HF2.out.2.1.setCell (p := ⟨g, j, none⟩) (Or.inr (Nat.le_trans HF1.out.1.size hg)) (.int .u8 ((B[j] ^^^ x).toNat : Int))
        have r1 := bits_xor8 B[j] x
        have hne : B[j] ^^^ x ≠ B[j] := fun e => HX.out (by
          have h2 : B[j] ^^^ (B[j] ^^^ x) = B[j] ^^^ B[j] := by rw [e]
          rw [← UInt8.xor_assoc, UInt8.xor_self, UInt8.zero_xor] at h2
          exact h2)
        have hpv := HT.out _ HB.out hjl hkk hne
        have hlen : (B.set j (B[j] ^^^ x)).length = 512 := by rw [List.length_set]; exact hl
        have hop := HPP.out.parse _ (some ⟨g, 0, none⟩) cap (B.set j (B[j] ^^^ x)) ho2.rd (own_cap3 ho2).1 (own_cap3 ho2).2 (by rw [hlen]; omega) (HPP.out.d_keep HDD.out hF3)
        rw [hpv, hlen] at hop
        have HOP : Hid (Calls Tryd.prog 10 #[.slice (some ⟨g, 0, none⟩) 512 cap] (w2.setCell ⟨g, j, none⟩ (.int .u8 ((B[j] ^^^ x).toNat : Int))) fun e w' => e = .returned (.tuple #[.agg #[.string ⟨#[]⟩, .string ⟨#[]⟩, .int .i64 0, .int .i64 0, .int .u8 0], .int .i64 130]) ∧ Fr (fun _ => False) (w2.setCell ⟨g, j, none⟩ (.int .u8 ((B[j] ^^^ x).toNat : Int))) w') := Lib.hid hop
        have HF3 := Lib.hid hF3
        rw [hl]
        generalize ((B[j] ^^^ x).toNat : Int) = y at r1 HOP HF3
        generalize (B[j].toNat : Int) = u at hc r1
        have hk0 : (0 : Int) ≤ j := by omega
        have hkn : (j : Int) < 512 := by omega
        clear ho2 hset hF3 hpv hlen hop hl hg HF2 hne hkk hjl
        go_wp2_with fail
        refine HOP.out.mono ?_
        rintro e w4 ⟨rfl, hF4⟩
        have HF4 := Lib.hid ((HF3.out.trans hF4 (fun _ _ e => e)).alloc (rec5 (.string ⟨#[]⟩) (.string ⟨#[]⟩) (.int .i64 0) (.int .i64 0) (.int .u8 0)))
        obtain ⟨d0, d1, d2, d3, d4⟩ := rec_cells (w := w4) (w' := w4.alloc (rec5 (.string ⟨#[]⟩) (.string ⟨#[]⟩) (.int .i64 0) (.int .i64 0) (.int .u8 0))) (Fr.refl _ _)
        clear hF4
        go_wp2_with fail
        go_ret
        exact ⟨rfl, HF4.out⟩
end Go.Proofs.YtdocanihocbhhaaDoor.he
