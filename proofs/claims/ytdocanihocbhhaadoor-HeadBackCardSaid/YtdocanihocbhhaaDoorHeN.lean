/-
  HeadNumbers; the document's Sum and Empty.
-/
import Derived.Test.YtdocanihocbhhaaDoorHeX
namespace Go.Proofs.YtdocanihocbhhaaDoor.he
set_option maxRecDepth 100000
open Go.RowKit Go.Maps
set_option maxRecDepth 100000

set_option maxHeartbeats 4000000 in
theorem numbers_walk {D : World → Prop} (HP : HeadP D) (w : World) (hD : D w) (A : Option Addr) (cap : Nat) (bb : Bts) (hr : Rd w w.heap.size A bb) (hA : A = none → cap = 0) (hc : bb.length ≤ cap) (hb : bb.length ≤ 140737488351232) (hm : cap ≤ maxLen) :
    Calls Tryd.prog 4 #[.slice A bb.length cap] w fun e w' => e = .returned (.bool true) ∧ Fr (fun _ => False) w w' := by
  have HPP := Lib.hid HP
  have HDD := Lib.hid hD
  have HW := Lib.hid (fun w hd => works_any HP w hd)
  have HO := Lib.hid (HP.octal w A cap bb hr hA hc hb hD hm)
  have HR := Lib.hid (fun w1 (hF : Fr (fun _ => False) w w1) => roctal w1 A cap w1.heap.size bb ((hr.still hF (Nat.le_refl _)).more hF.size) hb)
  obtain ⟨n, hn⟩ : ∃ n, n = bb.length := ⟨_, rfl⟩
  rw [← hn] at HO HR ⊢
  obtain ⟨v, hv⟩ : ∃ v, v = (octalV bb).1 := ⟨_, rfl⟩
  obtain ⟨z, hz⟩ : ∃ z, z = (octalV bb).2 := ⟨_, rfl⟩
  rw [← hv, ← hz] at HO HR
  clear HP hr hA hc hb hn hv hz hD hm
  go_enter Tryd.func4, Tryd.ntmps4
  go_wp2_with fail
  refine HO.out.mono ?_
  rintro e w1 ⟨rfl, hF1⟩
  have HF1 := Lib.hid hF1
  have HR1 := Lib.hid (HR.out w1 hF1)
  clear hF1 HR HO
  go_wp2_with fail
  refine HR1.out.mono ?_
  rintro e w2 ⟨rfl, rfl⟩
  go_wp2_with fail
  refine (HW.out _ (HPP.out.d_keep HDD.out HF1.out)).mono ?_
  rintro e w3 ⟨rfl, hF3⟩
  have HF3 := Lib.hid (HF1.out.trans hF3 (fun _ _ e => e))
  clear hF3
  go_wp2_with fail
  go_ret
  exact ⟨rfl, HF3.out⟩

theorem sumF_snoc (b : Bts) (i : Nat) (h : i < b.length) : sumF 0 (b.take (i + 1)) = sumF 0 (b.take i) + sumAt i b[i] := by
  rw [← List.take_concat_get h, List.concat_eq_append, sumF_app, List.length_take, Nat.min_eq_left (by omega), Nat.zero_add]
  rfl
set_option maxHeartbeats 4000000 in
theorem rsum (w : World) (A : Option Addr) (cap B : Nat) (b : Bts) (hr : Rd w B A b) (hl : b.length ≤ 140737488351232) :
    Calls Tryd.prog 13 #[.slice A b.length cap] w fun e w' => e = .returned (.int .i64 (sumV b : Nat)) ∧ w = w' := by
  have HR := Lib.hid hr
  obtain ⟨n, hn⟩ : ∃ n, n = b.length := ⟨_, rfl⟩
  rw [← hn] at hl ⊢
  have HN := Lib.hid hn
  obtain ⟨V, hV⟩ : ∃ V, V = sumV b := ⟨_, rfl⟩
  have HV := Lib.hid hV
  rw [← hV]
  clear hr hn hV
  go_enter Tryd.func13, Tryd.ntmps13
  go_wp2_with fail
  go_loop [3, 4] (fun v3 v4 => ∃ i s : Nat, i ≤ n ∧ s ≤ 255 * i ∧ v3 = .int .i64 s ∧ v4 = .int .i64 i ∧ Hid (s = sumF 0 (b.take i))) (fun _ v => n - (intOf v).toNat)
  case atStart => exact ⟨0, 0, Nat.zero_le _, Nat.le_refl _, rfl, rfl, (show _ = _ from rfl)⟩
  case round =>
    obtain ⟨i, s, hi, hs, rfl, rfl, HK⟩ := hrel
    by_cases hlt : i < n
    · have hil : i < b.length := by rw [← HN.out]; exact hlt
      obtain ⟨blk, off, rfl, _, hc⟩ := HR.out.at_ hil
      have HE := Lib.hid (show s + sumAt i b[i] = sumF 0 (b.take (i + 1)) from by rw [sumF_snoc b i hil, HK.out])
      have hx256 : b[i].toNat < 256 := b[i].toNat_lt
      have HSA := Lib.hid (show sumAt i b[i] = if 148 ≤ i ∧ i < 156 then 32 else b[i].toNat from rfl)
      obtain ⟨x, hx⟩ : ∃ x, x = b[i].toNat := ⟨_, rfl⟩
      rw [← hx] at hc hx256 HSA
      have h5 : (0 : Int) ≤ i := by omega
      have h6 : (i : Int) < n := by omega
      have HSE := Lib.hid (⟨HE.out, HSA.out⟩ : _ ∧ _)
      generalize sumAt i b[i] = sa at HSE
      clear HE HSA hx hil
      rcases (show ((148 : Int) ≤ i ∧ (i : Int) < 156) ∨ ((148 : Int) ≤ i ∧ ¬ (i : Int) < 156) ∨ ¬ (148 : Int) ≤ i by omega) with ⟨h148, h156⟩ | ⟨h148, h156⟩ | h148
      · have HE2 := Lib.hid (show s + 32 = sumF 0 (b.take (i + 1)) from by rw [← HSE.out.1, HSE.out.2, if_pos (by omega)])
        go_wp2_with fail
        go_round
        case rel => exact ⟨i + 1, s + 32, by omega, by omega, by go_num, by go_num, HE2⟩
        case measure => simp [intOf]; omega
      all_goals
        have HE2 := Lib.hid (show s + x = sumF 0 (b.take (i + 1)) from by rw [← HSE.out.1, HSE.out.2, if_neg (by omega)])
        go_wp2_with fail
        go_round
        case rel => exact ⟨i + 1, s + x, by omega, by omega, by go_num, by go_num, HE2⟩
        case measure => simp [intOf]; omega
    · have hge : ¬ (i : Int) < n := by omega
      have HV2 := Lib.hid (show V = s from by
        have e : i = b.length := by have := HN.out; omega
        rw [HV.out, HK.out, e, List.take_length]
        rfl)
      go_wp2_with fail
      go_ret
      exact ⟨by rw [HV2.out]; rfl, rfl⟩
set_option maxHeartbeats 4000000 in
theorem rempty (w : World) (A : Option Addr) (cap B : Nat) (b : Bts) (hr : Rd w B A b) (hl : b.length ≤ 140737488351232) :
    Calls Tryd.prog 15 #[.slice A b.length cap] w fun e w' => e = .returned (.bool (emptyV b)) ∧ w = w' := by
  have HR := Lib.hid hr
  obtain ⟨n, hn⟩ : ∃ n, n = b.length := ⟨_, rfl⟩
  rw [← hn] at hl ⊢
  have HN := Lib.hid hn
  obtain ⟨V, hV⟩ : ∃ V, V = emptyV b := ⟨_, rfl⟩
  have HV := Lib.hid hV
  rw [← hV]
  clear hr hn hV
  go_enter Tryd.func15, Tryd.ntmps15
  go_wp2_with fail
  go_loop [3] (fun v3 => ∃ i : Nat, i ≤ n ∧ v3 = .int .i64 i ∧ Hid (∀ j (h : j < b.length), j < i → b[j] = 0)) (fun v => n - (intOf v).toNat)
  case atStart => exact ⟨0, Nat.zero_le _, rfl, (show ∀ j (h : j < b.length), _ → _ from fun j h h2 => by omega)⟩
  case round =>
    obtain ⟨i, hi, rfl, HK⟩ := hrel
    by_cases hlt : i < n
    · have hil : i < b.length := by rw [← HN.out]; exact hlt
      obtain ⟨blk, off, rfl, _, hc⟩ := HR.out.at_ hil
      by_cases hx : b[i] = 0
      · have hc' : w.cell? ⟨blk, off + i, none⟩ = some (.int .u8 0) := by rw [hc, hx]; rfl
        have HE := Lib.hid (show ∀ j (h : j < b.length), j < i + 1 → b[j] = 0 from fun j h h2 => by
          by_cases e : j = i
          · subst e; exact hx
          · exact HK.out j h (by omega))
        have h5 : (0 : Int) ≤ i := by omega
        have h6 : (i : Int) < n := by omega
        clear hx hil hc
        go_wp2_with fail
        go_round
        case rel => exact ⟨i + 1, by omega, by go_num, HE⟩
        case measure => simp [intOf]; omega
      · have hne := u8_ne (y := 0) hx
        have hne' : ((b[i].toNat : Int) != 0) = true := by
          unfold bne
          rw [show ((b[i].toNat : Int) == 0) = false from hne]
          rfl
        have HV2 := Lib.hid (show V = false from by
          rw [HV.out]
          unfold emptyV
          rw [show (b.all fun x => decide (x = 0)) = false from by
            rw [List.all_eq_false]
            exact ⟨b[i], List.getElem_mem hil, by simpa using hx⟩]
          rfl)
        obtain ⟨x, hx2⟩ : ∃ x, x = b[i].toNat := ⟨_, rfl⟩
        rw [← hx2] at hc hne hne'
        have h5 : (0 : Int) ≤ i := by omega
        have h6 : (i : Int) < n := by omega
        clear hx hx2 hil hne
        go_wp2_with fail
        go_ret
        exact ⟨by rw [HV2.out]; rfl, rfl⟩
    · have hge : ¬ (i : Int) < n := by omega
      have HV2 := Lib.hid (show V = decide (n = 512) from by
        rw [HV.out]
        unfold emptyV
        rw [← HN.out, show (b.all fun x => decide (x = 0)) = true from by
          rw [List.all_eq_true]
          intro x hx
          obtain ⟨j, hj, rfl⟩ := List.getElem_of_mem hx
          exact decide_eq_true (HK.out j hj (by have := HN.out; omega))]
        rfl)
      have he : ((n : Int) == 512) = decide (n = 512) := by
        by_cases e : n = 512
        · rw [e]; rfl
        · rw [decide_eq_false e]
          exact beq_eq_false_iff_ne.2 (by omega)
      by_cases h5 : n = 512
      · have he2 : ((n : Int) == 512) = true := by rw [he]; exact decide_eq_true h5
        have HV3 := Lib.hid (show V = true by rw [HV2.out]; exact decide_eq_true h5)
        clear h5 he
        go_wp2_with fail
        go_ret
        exact ⟨by rw [HV3.out]; rfl, rfl⟩
      · have he2 : ((n : Int) == 512) = false := by rw [he]; exact decide_eq_false h5
        have HV3 := Lib.hid (show V = false by rw [HV2.out]; exact decide_eq_false h5)
        clear h5 he
        go_wp2_with fail
        go_ret
        exact ⟨by rw [HV3.out]; rfl, rfl⟩
end Go.Proofs.YtdocanihocbhhaaDoor.he
