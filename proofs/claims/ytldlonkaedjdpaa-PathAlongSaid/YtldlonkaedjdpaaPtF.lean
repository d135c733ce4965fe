/-
  The document's All.
-/
import Derived.Test.YtldlonkaedjdpaaPtE
namespace Go.Proofs.Ytldlonkaedjdpaa.pt
set_option maxRecDepth 100000
open Go.RowKit Go.Maps
set_option maxRecDepth 100000

theorem up_succ (l : Tx) (m : Nat) : (List.range (m + 1)).map (upTo l) = (List.range m).map (upTo l) ++ [upTo l m] := by rw [List.range_succ, List.map_append]; rfl
set_option maxHeartbeats 4000000 in
theorem rall (w : World) (s : ByteArray) (hs : s.size ≤ 1099511627776) :
    Calls Try.prog 27 #[.string s] w (NewS w (allL s.toList)) := by
  obtain ⟨i0, hi, hz0, hz1, hz2⟩ := info_parts infoS
  have HI := Lib.hid (⟨hi, hz0, hz1, hz2⟩ : _ ∧ _ ∧ _ ∧ _)
  have H0 := Lib.hid (⟨ownS_nil w, (Fr.refl (fun _ => False) w).alloc (.cells #[] 9)⟩ : _ ∧ _)
  have HLN := Lib.hid (toL_len s)
  clear hi hz0 hz1 hz2
  by_cases h0 : s.toList = []
  · have HV := Lib.hid (show allL s.toList = [] by unfold allL; rw [if_pos h0])
    rw [HV.out]
    go_enter Try.func27, Try.ntmps27
    go_wp2_with fail
    go_ret
    exact ⟨_, 0, rfl, H0.out.1, H0.out.2⟩
  have h0' := isE h0
  have HNE := Lib.hid h0
  obtain ⟨X, hX⟩ : ∃ X, X = allL s.toList := ⟨_, rfl⟩
  have HX := Lib.hid hX
  rw [← hX]
  clear hX h0
  go_enter Try.func27, Try.ntmps27
  go_wp2_with fail
  go_loopw [3, 4] (fun v3 v4 wr => ∃ (i m : Nat) (p : Option Addr) (cp : Nat), i ≤ s.size ∧ m ≤ i ∧ v4 = .int .i64 i ∧ v3 = .slice p m cp ∧ Hid (AlI s.toList m i ∧ wr.ownsRow w.heap.size 9 1 (.slice p m cp) m (ss ((List.range m).map (upTo s.toList))) ∧ Fr (fun _ => False) w wr)) (fun _ v _ => s.size - (intOf v).toNat)
  case atStart => exact ⟨0, 0, _, _, Nat.zero_le _, Nat.le_refl _, rfl, rfl, (show _ ∧ _ from ⟨AlI.zero _, H0.out⟩)⟩
  case round =>
    obtain ⟨i, m, p, cp, hi, hm, rfl, rfl, HK⟩ := hrel
    clear H0
    have HRL := Lib.hid (show m = ((List.range m).map (upTo s.toList)).length by simp)
    obtain ⟨L, hL⟩ : ∃ L, L = (List.range m).map (upTo s.toList) := ⟨_, rfl⟩
    have HL := Lib.hid hL
    rw [← hL] at HK HRL
    clear hL
    by_cases hlt : i < s.size
    · have hx := toL_get s i hlt
      obtain ⟨y, hy⟩ : ∃ y : Nat, y = s[i].toNat := ⟨_, rfl⟩
      have hsi : (s[i].toNat : Int) = (y : Int) := by rw [hy]
      by_cases hq : s[i] = 47
      · have hyc : y = 47 := by rw [hy, hq]; rfl
        have HN := Lib.hid (HK.out.1.cut (by rw [hx, hq]))
        have HE := Lib.hid (show s.extract 0 i = tx (upTo s.toList m) by rw [tx_ext, HN.out.2, List.drop_zero, Nat.sub_zero])
        clear hy hx hq
        go_wp2_with (at_builtin; refine wpList_append_own_at _ rfl (.tmp 19) (.tmp 23) 33 rfl w.heap.size 9 i0 zeroS 1 16 Try.underlying33 HI.out.1 HI.out.2.1 HI.out.2.2.1 HI.out.2.2.2 rfl (by omega) _ m (ss L) rfl (World.ownsRow.alloc HK.out.2.1 _) ⟨wr.heap.size, 0, none⟩ 1 1 [.string (s.extract 0 i)] rfl rfl (newsS _ (heap_alloc_new _ _)) (oneS _) (by unfold maxLen; omega) (by omega) (Nat.le_trans HK.out.2.2.size (by simp)) ?_; intro v2 w2 hown hg _ _; rw [HE.out] at hown; obtain ⟨p2, c2, hv, hm2, ho2, hF2⟩ := snocS HRL.out (World.ownsRow.alloc HK.out.2.1 _) (HK.out.2.2.alloc _) hown hg; subst hv; have HM2 := Lib.hid hm2; clear hown hg hm2)
        go_roundw
        case rel => exact ⟨i + 1, m + 1, p2, c2, by omega, by omega, by go_num, rfl, (show _ ∧ _ from ⟨HN.out.1, by rw [up_succ, ← HL.out]; exact ho2, hF2⟩)⟩
        case measure => simp [intOf]; omega
      · have hyc : ((y : Int) == 47) = false := by
          rw [beq_eq_false_iff_ne]
          intro e
          exact hq (UInt8.toNat_inj.1 (by show s[i].toNat = 47; omega))
        have HN := Lib.hid (HK.out.1.next hx hq)
        clear hy hx hq
        go_wp2_with fail
        go_roundw
        case rel => exact ⟨i + 1, m, p, cp, by omega, by omega, by go_num, rfl, (show _ ∧ _ from ⟨HN.out, by rw [← HL.out]; exact HK.out.2.1, HK.out.2.2⟩)⟩
        case measure => simp [intOf]; omega
    · have hie : i = s.size := by omega
      have HN := Lib.hid (show m + 1 = (splitB 47 s.toList).length ∧ upTo s.toList m = s.toList by
        have h := HK.out.1
        rw [hie, ← HLN.out] at h
        exact h.last)
      have HV := Lib.hid (show X = L ++ [s.toList] by rw [HX.out]; unfold allL; rw [if_neg HNE.out, ← HN.out.1, up_succ, ← HL.out, HN.out.2])
      have HT := Lib.hid (tx_of s)
      clear hie
      go_wp2_with (at_builtin; refine wpList_append_own_at _ rfl (.tmp 25) (.tmp 27) 33 rfl w.heap.size 9 i0 zeroS 1 16 Try.underlying33 HI.out.1 HI.out.2.1 HI.out.2.2.1 HI.out.2.2.2 rfl (by omega) _ m (ss L) rfl (World.ownsRow.alloc HK.out.2.1 _) ⟨wr.heap.size, 0, none⟩ 1 1 [.string s] rfl rfl (newsS _ (heap_alloc_new _ _)) (oneS _) (by unfold maxLen; omega) (by omega) (Nat.le_trans HK.out.2.2.size (by simp)) ?_; intro v2 w2 hown hg _ _; rw [← HT.out] at hown; obtain ⟨p2, c2, hv, hm2, ho2, hF2⟩ := snocS HRL.out (World.ownsRow.alloc HK.out.2.1 _) (HK.out.2.2.alloc _) hown hg; subst hv; have HM2 := Lib.hid hm2; clear hown hg hm2)
      go_ret
      rw [HV.out]
      exact ⟨p2, c2, by rw [← HM2.out]; rfl, by unfold OwnS; rw [← HM2.out]; exact ho2, hF2⟩
end Go.Proofs.Ytldlonkaedjdpaa.pt
