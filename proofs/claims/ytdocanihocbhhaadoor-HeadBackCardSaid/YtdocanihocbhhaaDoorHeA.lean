/-
  The document's Octal, Sum, Empty, text.
-/
import Derived.Test.YtdocanihocbhhaaDoorHeM
import Derived.Laws.IdiomStrings
import Derived.Lib.Strings
namespace Go.Proofs.YtdocanihocbhhaaDoor.he
set_option maxRecDepth 100000
open Go.RowKit Go.Maps
set_option maxRecDepth 100000

abbrev tx (l : Bts) : ByteArray := ⟨l.toArray⟩
theorem toL (s : ByteArray) : s.toList = s.data.toList := ByteArray.toList_eq s
theorem tx_toL (l : Bts) : (tx l).toList = l := by rw [toL]
theorem tx_of (s : ByteArray) : tx s.toList = s := by rw [toL]
theorem u8_ne {x y : UInt8} (h : x ≠ y) : ((x.toNat : Int) == (y.toNat : Int)) = false := beq_eq_false_iff_ne.2 (fun e => h (UInt8.toNat_inj.1 (by omega)))
set_option maxHeartbeats 8000000 in
theorem roctal (w : World) (A : Option Addr) (cap B : Nat) (b : Bts) (hr : Rd w B A b) (hl : b.length ≤ 140737488351232) :
    Calls Tryd.prog 19 #[.slice A b.length cap] w fun e w' => e = .returned (.tuple #[.int .i64 (octalV b).1, .int .i64 (octalV b).2]) ∧ w = w' := by
  have HR := Lib.hid hr
  obtain ⟨n, hn⟩ : ∃ n, n = b.length := ⟨_, rfl⟩
  rw [← hn] at hl ⊢
  have HN := Lib.hid hn
  obtain ⟨V, hV⟩ : ∃ V, V = (octalV b).1 := ⟨_, rfl⟩
  obtain ⟨Z, hZ⟩ : ∃ Z, Z = (octalV b).2 := ⟨_, rfl⟩
  have HV := Lib.hid (⟨hV, hZ⟩ : _ ∧ _)
  rw [← hV, ← hZ]
  clear hr hn hV hZ
  go_enter Tryd.func19, Tryd.ntmps19
  go_wp2_with fail
  go_loop [4] (fun v => ∃ i : Nat, i ≤ n ∧ v = .int .i64 i ∧ Hid (skipB b = skipB (b.drop i))) (fun v => n - (intOf v).toNat)
  case atStart => exact ⟨0, Nat.zero_le _, rfl, (show _ = _ from rfl)⟩
  case round =>
    obtain ⟨i, hi, rfl, HK⟩ := hrel
    -- where the blanks end
    have HS : Hid ((∃ x, b[i]? = some x ∧ x = 32) ∨ (skipB b = b.drop i ∧ (i = n ∨ ∃ x, b[i]? = some x ∧ x ≠ 32))) := Lib.hid (by
      by_cases hlt : i < n
      · have hil : i < b.length := by rw [← HN.out]; exact hlt
        have hx : b[i]? = some b[i] := List.getElem?_eq_getElem hil
        by_cases h32 : b[i] = 32
        · exact Or.inl ⟨_, hx, h32⟩
        · exact Or.inr ⟨HK.out.trans (skip_stop hx h32), Or.inr ⟨_, hx, h32⟩⟩
      · obtain rfl : i = n := by omega
        refine Or.inr ⟨?_, Or.inl rfl⟩
        have := HK.out
        rw [HN.out] at this ⊢
        exact this.trans skip_end)
    rcases HS.out with ⟨x, hx, rfl⟩ | ⟨hsk, hend⟩
    · have hil := (List.getElem?_eq_some_iff.1 hx).1
      have hlt : i < n := by rw [HN.out]; exact hil
      obtain ⟨blk, off, rfl, _, hc⟩ := HR.out.at_ hil
      rw [(List.getElem?_eq_some_iff.1 hx).2] at hc
      have hc' : w.cell? ⟨blk, off + i, none⟩ = some (.int .u8 32) := hc
      have HE := Lib.hid (HK.out.trans (skip_next hx))
      have h5 : (0 : Int) ≤ i := by omega
      have h6 : (i : Int) < n := by omega
      clear hx hil hc HS
      go_wp2_with fail
      go_round
      case rel => exact ⟨i + 1, by omega, by go_num, HE⟩
      case measure => simp [intOf]; omega
    · have HSK := Lib.hid hsk
      clear hsk HS HK
      rcases hend with hin | ⟨x, hx, hne⟩
      case' inl =>
        have hge : ¬ i < n := by omega
        clear hin
        go_wp2_with fail
      case' inr =>
        have hil := (List.getElem?_eq_some_iff.1 hx).1
        have hlt : i < n := by rw [HN.out]; exact hil
        obtain ⟨blk, off, rfl, _, hc⟩ := HR.out.at_ hil
        rw [(List.getElem?_eq_some_iff.1 hx).2] at hc
        have hx32 := u8_ne (y := 32) hne
        obtain ⟨y, hy⟩ : ∃ y, y = x.toNat := ⟨_, rfl⟩
        rw [← hy] at hc hx32
        have hx32' : ((y : Int) == 32) = false := hx32
        have h5 : (0 : Int) ≤ i := by omega
        have h6 : (i : Int) < n := by omega
        clear hx hil hne hy hx32
        go_wp2_with fail
      all_goals
        go_loop [4, 5, 6] (fun v4 v5 v6 => ∃ j m v : Nat, j ≤ n ∧ m ≤ 12 ∧ v < 68719476736 ∧ v4 = .int .i64 j ∧ v5 = .int .i64 v ∧ v6 = .int .i64 m ∧ Hid (j = i + m ∧ DgI (b.drop i) m v)) (fun _ _ v => 13 - (intOf v).toNat)
        case atStart => exact ⟨i, 0, 0, hi, by omega, by omega, rfl, rfl, rfl, (show _ ∧ _ from ⟨rfl, DgI.zero _⟩)⟩
        case round =>
          obtain ⟨j, m, v, hj, hm, hv, rfl, rfl, rfl, HD⟩ := hrel
          by_cases hjn : j < n
          case neg =>
            have HO := Lib.hid (OcI.bad (OcI.of (by rw [← HN.out]; exact hi) HSK.out HD.out.2 (Or.inl (by rw [List.length_drop, ← HN.out]; have := HD.out.1; omega))) (Or.inr (Or.inr (by rw [← HN.out]; have := HD.out.1; omega))))
            have hjn2 : j = n := by omega
            have hjn3 : ((j : Int) == (n : Int)) = true := beq_iff_eq.2 (by omega)
            have HV2 := Lib.hid (⟨by rw [HV.out.1, HO.out], by rw [HV.out.2, HO.out]⟩ : V = 0 ∧ Z = 130)
            clear hjn2
            go_wp2_with fail
            all_goals
              go_ret2
              exact ⟨by rw [HV2.out.1, HV2.out.2]; rfl, rfl⟩
          case pos =>
            have hjl : j < b.length := by rw [← HN.out]; exact hjn
            obtain ⟨blk2, off2, hA2, _, hc2⟩ := HR.out.at_ hjl
            first
              | (cases hA2)
              | (subst hA2)
            obtain ⟨z, hz⟩ : ∃ z, z = b[j] := ⟨_, rfl⟩
            have hjz : b[j]? = some z := by rw [hz]; exact List.getElem?_eq_getElem hjl
            rw [← hz] at hc2
            have HJZ := Lib.hid (⟨hjz, by rw [List.getElem?_drop, ← HD.out.1]; exact hjz⟩ : b[j]? = some z ∧ (b.drop i)[m]? = some z)
            obtain ⟨y2, hy2⟩ : ∃ y2, y2 = z.toNat := ⟨_, rfl⟩
            have HY2 := Lib.hid hy2
            rw [← hy2] at hc2
            have hy256 : y2 < 256 := by rw [hy2]; exact z.toNat_lt
            have k5 : (0 : Int) ≤ j := by omega
            have k6 : (j : Int) < n := by omega
            clear hz hjz hy2 hjl
            by_cases hm12 : m < 12
            case neg =>
              have HO := Lib.hid (OcI.of (by rw [← HN.out]; exact hi) HSK.out HD.out.2 (Or.inr (Or.inl (by omega))))
              have HV1 := Lib.hid (HO.out.bad (Or.inr (Or.inl (by omega))))
              have HV2 := Lib.hid (⟨by rw [HV.out.1, HV1.out], by rw [HV.out.2, HV1.out]⟩ : V = 0 ∧ Z = 130)
              have hm13 : ¬ (m : Int) < 12 := by omega
              have hm14 : (11 : Int) < (m : Int) := by omega
              have hm15 : ¬ (m : Int) < 1 := by omega
              by_cases g1 : (48 : Int) ≤ (y2 : Int)
              · by_cases g2 : (y2 : Int) ≤ 55
                · go_wp2_with fail
                  go_ret2
                  exact ⟨by rw [HV2.out.1, HV2.out.2]; rfl, rfl⟩
                · go_wp2_with fail
                  go_ret2
                  exact ⟨by rw [HV2.out.1, HV2.out.2]; rfl, rfl⟩
              · go_wp2_with fail
                go_ret2
                exact ⟨by rw [HV2.out.1, HV2.out.2]; rfl, rfl⟩
            case pos =>
              have hm13 : (m : Int) < 12 := by omega
              by_cases g1 : (48 : Int) ≤ (y2 : Int)
              · by_cases g2 : (y2 : Int) ≤ 55
                · have HE := Lib.hid (HD.out.2.next HJZ.out.2 (by unfold isD; rw [← HY2.out]; simp; omega) hm12)
                  rw [← HY2.out] at HE
                  have HSM := Lib.hid HE.out.small
                  have hyi : (y2 : Int) - 48 = ((y2 - 48 : Nat) : Int) := by omega
                  go_wp2_with fail
                  go_round
                  case rel => exact ⟨j + 1, m + 1, 8 * v + (y2 - 48), by omega, by omega, HSM.out, by go_num, by go_num, by go_num, (show _ ∧ _ from ⟨by have := HD.out.1; omega, HE.out⟩)⟩
                  case measure => simp [intOf]; omega
                · have HO := Lib.hid (OcI.of (by rw [← HN.out]; exact hi) HSK.out HD.out.2 (Or.inr (Or.inr ⟨z, HJZ.out.2, by unfold isD; rw [← HY2.out]; simp; omega⟩)))
                  by_cases hm0 : m < 1
                  · have HV1 := Lib.hid (HO.out.bad (Or.inl hm0))
                    have HV2 := Lib.hid (⟨by rw [HV.out.1, HV1.out], by rw [HV.out.2, HV1.out]⟩ : V = 0 ∧ Z = 130)
                    go_wp2_with fail
                    all_goals
                      go_ret2
                      exact ⟨by rw [HV2.out.1, HV2.out.2]; rfl, rfl⟩
                  · have hm1 : ¬ (m : Int) < 1 := by omega
                    have hm11 : ¬ (11 : Int) < (m : Int) := by omega
                    have hjn4 : ((j : Int) == (n : Int)) = false := beq_eq_false_iff_ne.2 (by omega)
                    go_wp2_with fail
                    go_loop [4] (fun v4 => ∃ t : Nat, j ≤ t ∧ t ≤ n ∧ v4 = .int .i64 t ∧ Hid (∀ k x, j ≤ k → k < t → b[k]? = some x → endB x = true)) (fun v => n - (intOf v).toNat)
                    case atStart => exact ⟨j, Nat.le_refl _, hj, rfl, (show ∀ k x, _ → _ → _ → _ from fun k x h1 h2 => by omega)⟩
                    case round =>
                      obtain ⟨t, ht1, ht2, rfl, HT⟩ := hrel
                      by_cases htn : t < n
                      · have htl : t < b.length := by rw [← HN.out]; exact htn
                        obtain ⟨blk3, off3, hA3, _, hc3⟩ := HR.out.at_ htl
                        first
                          | (cases hA3)
                          | (subst hA3)
                        obtain ⟨q, hq⟩ : ∃ q, q = b[t] := ⟨_, rfl⟩
                        have htq : b[t]? = some q := by rw [hq]; exact List.getElem?_eq_getElem htl
                        rw [← hq] at hc3
                        obtain ⟨y3, hy3⟩ : ∃ y3, y3 = q.toNat := ⟨_, rfl⟩
                        rw [← hy3] at hc3
                        have k7 : (0 : Int) ≤ t := by omega
                        have k8 : (t : Int) < n := by omega
                        by_cases hq1 : q = 32
                        · have hyv : y3 = 32 := by rw [hy3, hq1]; rfl
                          have HE := Lib.hid (show ∀ k x, j ≤ k → k < t + 1 → b[k]? = some x → endB x = true from fun k x h1 h2 h3 => by
                            by_cases e : k = t
                            · subst e; rw [htq] at h3; cases h3; rw [hq1]; rfl
                            · exact HT.out k x h1 (by omega) h3)
                          clear hq htq hy3 hq1 htl
                          go_wp2_with fail
                          go_round
                          case rel => exact ⟨t + 1, by omega, by omega, by go_num, HE⟩
                          case measure => simp [intOf]; omega
                        · have hn32 : ((y3 : Int) == 32) = false := by rw [hy3]; exact u8_ne (y := 32) hq1
                          by_cases hq0 : q = 0
                          · have hyv : y3 = 0 := by rw [hy3, hq0]; rfl
                            have HE := Lib.hid (show ∀ k x, j ≤ k → k < t + 1 → b[k]? = some x → endB x = true from fun k x h1 h2 h3 => by
                              by_cases e : k = t
                              · subst e; rw [htq] at h3; cases h3; rw [hq0]; rfl
                              · exact HT.out k x h1 (by omega) h3)
                            clear hq htq hy3 hq1 hq0 htl
                            go_wp2_with fail
                            go_round
                            case rel => exact ⟨t + 1, by omega, by omega, by go_num, HE⟩
                            case measure => simp [intOf]; omega
                          · have hn0 : ((y3 : Int) == 0) = false := by rw [hy3]; exact u8_ne (y := 0) hq0
                            have hn32' : ((y3 : Int) != 32) = true := by rw [bne, hn32]; rfl
                            have hn0' : ((y3 : Int) != 0) = true := by rw [bne, hn0]; rfl
                            have HW := Lib.hid (HO.out.worse (j := t) (by have := HD.out.1; omega) htq (by unfold endB; simp [hq1, hq0]))
                            have HV2 := Lib.hid (⟨by rw [HV.out.1, HW.out], by rw [HV.out.2, HW.out]⟩ : V = 0 ∧ Z = 130)
                            clear hq htq hy3 hq1 hq0 htl
                            go_wp2_with fail
                            go_ret2
                            exact ⟨by rw [HV2.out.1, HV2.out.2]; rfl, rfl⟩
                      · have htn2 : ¬ (t : Int) < n := by omega
                        have HW := Lib.hid (HO.out.good (by omega) (by omega) (by rw [← HN.out]; have := HD.out.1; omega) (List.all_eq_true.2 (fun x hx => by
                          obtain ⟨k, hk⟩ := List.getElem?_of_mem hx
                          rw [List.getElem?_drop] at hk
                          have := (List.getElem?_eq_some_iff.1 hk).1
                          exact HT.out _ x (by have := HD.out.1; omega) (by rw [← HN.out] at this; omega) hk)))
                        have HV2 := Lib.hid (⟨by rw [HV.out.1, HW.out], by rw [HV.out.2, HW.out]⟩ : V = (v : Int) ∧ Z = 0)
                        go_wp2_with fail
                        go_ret2
                        exact ⟨by rw [HV2.out.1, HV2.out.2]; rfl, rfl⟩
              · have HO := Lib.hid (OcI.of (by rw [← HN.out]; exact hi) HSK.out HD.out.2 (Or.inr (Or.inr ⟨z, HJZ.out.2, by unfold isD; rw [← HY2.out]; simp; omega⟩)))
                by_cases hm0 : m < 1
                · have HV1 := Lib.hid (HO.out.bad (Or.inl hm0))
                  have HV2 := Lib.hid (⟨by rw [HV.out.1, HV1.out], by rw [HV.out.2, HV1.out]⟩ : V = 0 ∧ Z = 130)
                  go_wp2_with fail
                  all_goals
                    go_ret2
                    exact ⟨by rw [HV2.out.1, HV2.out.2]; rfl, rfl⟩
                · have hm1 : ¬ (m : Int) < 1 := by omega
                  have hm11 : ¬ (11 : Int) < (m : Int) := by omega
                  have hjn4 : ((j : Int) == (n : Int)) = false := beq_eq_false_iff_ne.2 (by omega)
                  go_wp2_with fail
                  go_loop [4] (fun v4 => ∃ t : Nat, j ≤ t ∧ t ≤ n ∧ v4 = .int .i64 t ∧ Hid (∀ k x, j ≤ k → k < t → b[k]? = some x → endB x = true)) (fun v => n - (intOf v).toNat)
                  case atStart => exact ⟨j, Nat.le_refl _, hj, rfl, (show ∀ k x, _ → _ → _ → _ from fun k x h1 h2 => by omega)⟩
                  case round =>
                    obtain ⟨t, ht1, ht2, rfl, HT⟩ := hrel
                    by_cases htn : t < n
                    · have htl : t < b.length := by rw [← HN.out]; exact htn
                      obtain ⟨blk3, off3, hA3, _, hc3⟩ := HR.out.at_ htl
                      first
                        | (cases hA3)
                        | (subst hA3)
                      obtain ⟨q, hq⟩ : ∃ q, q = b[t] := ⟨_, rfl⟩
                      have htq : b[t]? = some q := by rw [hq]; exact List.getElem?_eq_getElem htl
                      rw [← hq] at hc3
                      obtain ⟨y3, hy3⟩ : ∃ y3, y3 = q.toNat := ⟨_, rfl⟩
                      rw [← hy3] at hc3
                      have k7 : (0 : Int) ≤ t := by omega
                      have k8 : (t : Int) < n := by omega
                      by_cases hq1 : q = 32
                      · have hyv : y3 = 32 := by rw [hy3, hq1]; rfl
                        have HE := Lib.hid (show ∀ k x, j ≤ k → k < t + 1 → b[k]? = some x → endB x = true from fun k x h1 h2 h3 => by
                          by_cases e : k = t
                          · subst e; rw [htq] at h3; cases h3; rw [hq1]; rfl
                          · exact HT.out k x h1 (by omega) h3)
                        clear hq htq hy3 hq1 htl
                        go_wp2_with fail
                        go_round
                        case rel => exact ⟨t + 1, by omega, by omega, by go_num, HE⟩
                        case measure => simp [intOf]; omega
                      · have hn32 : ((y3 : Int) == 32) = false := by rw [hy3]; exact u8_ne (y := 32) hq1
                        by_cases hq0 : q = 0
                        · have hyv : y3 = 0 := by rw [hy3, hq0]; rfl
                          have HE := Lib.hid (show ∀ k x, j ≤ k → k < t + 1 → b[k]? = some x → endB x = true from fun k x h1 h2 h3 => by
                            by_cases e : k = t
                            · subst e; rw [htq] at h3; cases h3; rw [hq0]; rfl
                            · exact HT.out k x h1 (by omega) h3)
                          clear hq htq hy3 hq1 hq0 htl
                          go_wp2_with fail
                          go_round
                          case rel => exact ⟨t + 1, by omega, by omega, by go_num, HE⟩
                          case measure => simp [intOf]; omega
                        · have hn0 : ((y3 : Int) == 0) = false := by rw [hy3]; exact u8_ne (y := 0) hq0
                          have hn32' : ((y3 : Int) != 32) = true := by rw [bne, hn32]; rfl
                          have hn0' : ((y3 : Int) != 0) = true := by rw [bne, hn0]; rfl
                          have HW := Lib.hid (HO.out.worse (j := t) (by have := HD.out.1; omega) htq (by unfold endB; simp [hq1, hq0]))
                          have HV2 := Lib.hid (⟨by rw [HV.out.1, HW.out], by rw [HV.out.2, HW.out]⟩ : V = 0 ∧ Z = 130)
                          clear hq htq hy3 hq1 hq0 htl
                          go_wp2_with fail
                          go_ret2
                          exact ⟨by rw [HV2.out.1, HV2.out.2]; rfl, rfl⟩
                    · have htn2 : ¬ (t : Int) < n := by omega
                      have HW := Lib.hid (HO.out.good (by omega) (by omega) (by rw [← HN.out]; have := HD.out.1; omega) (List.all_eq_true.2 (fun x hx => by
                        obtain ⟨k, hk⟩ := List.getElem?_of_mem hx
                        rw [List.getElem?_drop] at hk
                        have := (List.getElem?_eq_some_iff.1 hk).1
                        exact HT.out _ x (by have := HD.out.1; omega) (by rw [← HN.out] at this; omega) hk)))
                      have HV2 := Lib.hid (⟨by rw [HV.out.1, HW.out], by rw [HV.out.2, HW.out]⟩ : V = (v : Int) ∧ Z = 0)
                      go_wp2_with fail
                      go_ret2
                      exact ⟨by rw [HV2.out.1, HV2.out.2]; rfl, rfl⟩
end Go.Proofs.YtdocanihocbhhaaDoor.he
