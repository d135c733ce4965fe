/-
  CodeBack over what is asked of the program's codes.
-/
import Derived.Test.YtnibbopdjeagoaaCdF
namespace Go.Proofs.Ytnibbopdjeagoaa.cd
set_option maxRecDepth 100000
open Go.RowKit Go.Maps Go.Proofs.Ytnibbopdjeagoaa.fl
set_option maxRecDepth 100000

section
variable {R : RP} {V : VP} {C : CP}
theorem row_kp {w w' w0 : World} {p : Option Addr} {m c : Nat} {L : List Int} (h : w.ownsRow w0.heap.size 3 1 (.slice p m c) m (is L)) (hk : ∀ g, (Value.slice p m c).ownBlock = some g → w'.heap[g]? = w.heap[g]?) : w'.ownsRow w0.heap.size 3 1 (.slice p m c) m (is L) := by
  obtain ⟨h1, h2⟩ := h
  refine ⟨h1, ?_⟩
  rcases h2 with h2 | ⟨g, cap, cur, hv, hg, hh, r⟩
  · exact Or.inl h2
  · exact Or.inr ⟨g, cap, cur, hv, hg, (hk g (by rw [hv]; rfl)).trans hh, r⟩
theorem jv_snoc (HF : FlowP R V) (HP : CodeP R V C) {w0 wc w' : World} {k : Addr} {l : List Int} {a : Addr} {p : Option Addr} {m c : Nat} {T L : List Int} {x : Int} {v : Value} (hm : m = T.length) (hj : JV V C w0 k l a (fun i => (Value.slice p m c).ownBlock = some i) wc L) (hown : w'.ownsRow w0.heap.size 3 1 v (m + 1) (is T ++ [.int .i64 x])) (hg : wc.grownBy w' (Value.slice p m c).ownBlock) (hat : v.ownBlock = (Value.slice p m c).ownBlock ∨ v.ownBlock = some wc.heap.size) :
    ∃ p' c', v = .slice p' (m + 1) c' ∧ w'.ownsRow w0.heap.size 3 1 (.slice p' (m + 1) c') (m + 1) (is (T ++ [x])) ∧ JV V C w0 k l a (fun i => (Value.slice p' (m + 1) c').ownBlock = some i) w' L := by
  have hl : m + 1 = (T ++ [x]).length := by rw [List.length_append, ← hm]; rfl
  obtain ⟨p', c', e, h⟩ := OwnI.shape (l := T ++ [x]) hl (by rw [is_append]; rfl) hown
  rw [← hl] at e h
  subst e
  unfold OwnI at h
  rw [← hl] at h
  refine ⟨p', c', rfl, h, ?_⟩
  have hF : Fr (fun i => (Value.slice p m c).ownBlock = some i) wc w' := (Fr.refl _ wc).grown hg (fun q e => Or.inl e)
  refine (hj.xaft HF HP hF).less (fun i e => ?_)
  rcases hat with h2 | h2
  · exact Or.inl (by rw [← h2]; exact e)
  · have hlt := World.ownsRow.lt h i e
    rw [h2] at e
    have e2 : wc.heap.size = i := Option.some.inj e
    exact Or.inr ⟨by omega, hlt.2⟩
theorem symL_yes {l : List Int} {s : Int} {L : List Int} (h : hasB l s = true) : symL l s L = L ++ wordB l s.toNat ∧ symZ l s = 0 := ⟨if_pos h, if_pos h⟩
theorem symL_no {l : List Int} {s : Int} {L : List Int} (h : hasB l s = false) : symL l s L = L ∧ symZ l s = 5 := by
  unfold symL symZ
  rw [h]
  exact ⟨rfl, rfl⟩
theorem has_at {l : List Int} {s : Nat} {x : Int} (h : l[s]? = some x) : hasB l (s : Int) = decide (0 < x) := by
  have hlt := (List.getElem?_eq_some_iff.1 h).1
  unfold hasB lenN
  rw [Int.toNat_natCast, h, decide_eq_true (show (0 : Int) ≤ (s : Int) by omega), decide_eq_true (show (s : Int) < l.length by omega)]
  simp
theorem has_past {l : List Int} {s : Nat} (h : s = l.length) : hasB l (s : Int) = false := by
  unfold hasB
  rw [decide_eq_false (show ¬ (s : Int) < l.length by omega)]
  simp

set_option maxHeartbeats 1600000 in
theorem back_walk (HF : FlowP R V) (HP : CodeP R V C) (w : World) (A : Option Addr) (cap : Nat) (l : List Int) (A2 : Option Addr) (cap2 : Nat) (sy : List Int) (hr : RdI w w.heap.size A l) (hA : A = none → cap = 0) (hc : l.length ≤ cap) (hl : l.length ≤ 140737488351232) (hr2 : RdI w w.heap.size A2 sy) (hl2 : sy.length ≤ 140737488351232) :
    Calls Try.prog 5 #[.slice A l.length cap, .slice A2 sy.length cap2] w fun e w' => e = .returned (.bool true) ∧ Fr (fun _ => False) w w' := by
  have HPP := Lib.hid (⟨HF, HP⟩ : _ ∧ _)
  have HI := Lib.hid (⟨hr, hA, hc, hl⟩ : _ ∧ _ ∧ _ ∧ _)
  have HW := Lib.hid (cworks HF HP w)
  obtain ⟨n, hn⟩ : ∃ n, n = l.length := ⟨_, rfl⟩
  have HN := Lib.hid hn
  obtain ⟨m, hm⟩ : ∃ n, n = sy.length := ⟨_, rfl⟩
  have HS := Lib.hid (⟨hr2, hm⟩ : _ ∧ _)
  have hbn : m ≤ 140737488351232 := by rw [hm]; exact hl2
  rw [← hn, ← hm]
  obtain ⟨i0, hi, hz0, hz1, hz2⟩ := info_parts infoI
  have HII := Lib.hid (⟨hi, hz0, hz1, hz2⟩ : _ ∧ _ ∧ _ ∧ _)
  clear HF HP hr hA hc hl hn hr2 hl2 hm hi hz0 hz1 hz2
  go_enter Try.func5, Try.ntmps5
  go_wp2_with fail
  refine HW.out.mono ?_
  rintro e w1 ⟨rfl, hF1⟩
  have HF1 := Lib.hid hF1
  clear hF1 HW
  have hr1 := rdI_more (HI.out.1.still HF1.out (Nat.le_refl _)) HF1.out.size
  cases hok : okB l with
  | false =>
    have HNW := Lib.hid (HPP.out.2.new_no w1 A cap l hr1 HI.out.2.1 HI.out.2.2.1 HI.out.2.2.2 hok)
    rw [← HN.out] at HNW
    clear hok hr1
    go_wp2_with fail
    refine HNW.out.mono ?_
    rintro e w2 ⟨rfl, hF2⟩
    have HF2 := Lib.hid (HF1.out.trans hF2 (fun _ _ e => e))
    clear hF2 HNW
    go_wp2_with fail
    go_ret
    exact ⟨rfl, HF2.out⟩
  | true =>
    have HNW := Lib.hid (HPP.out.2.new_ok w1 A cap l hr1 HI.out.2.1 HI.out.2.2.1 HI.out.2.2.2 hok)
    rw [← HN.out] at HNW
    have hn288 : n ≤ 288 := by rw [HN.out]; exact ((okB_iff l).1 hok).1
    have HOK := Lib.hid hok
    clear hok hr1
    go_wp2_with fail
    refine HNW.out.mono ?_
    rintro e w2 ⟨c, S, rfl, hC, hS, hF2⟩
    have HC := Lib.hid (⟨hC, fun i hi => Nat.le_trans HF1.out.size (hS i hi), HF1.out.trans hF2 (fun _ _ e => e)⟩ : C w2 c l S ∧ (∀ i, S i → w.heap.size ≤ i) ∧ Fr (fun _ => False) w w2)
    clear hC hS hF2 HNW
    go_wp2_with fail
    refine (HPP.out.1.write w2).mono ?_
    rintro e w3 ⟨v, U, rfl, hV, hU, hF3⟩
    have H3 : Hid (JV V C w c l v (fun i => (Value.slice (some ⟨w3.heap.size, 0, none⟩) 0 0).ownBlock = some i) (w3.alloc (.cells #[] 3)) (encS l []) ∧ (w3.alloc (.cells #[] 3)).ownsRow w.heap.size 3 1 (.slice (some ⟨w3.heap.size, 0, none⟩) 0 0) 0 (is [])) := Lib.hid (by
      have hF4 := (Fr.refl (fun _ => False) w3).alloc (.cells #[] 3)
      have hF34 := hF3.trans hF4 (fun _ _ e => e)
      have s1 := HC.out.2.2.size
      have s2 := hF3.size
      have s4 : (w3.alloc (.cells #[] 3)).heap.size = w3.heap.size + 1 := World.size_alloc _ _
      have k1 := (HPP.out.2.c_in HC.out.1).1
      have k2 := (HPP.out.1.v_in hV).1
      refine ⟨⟨⟨S, U, HPP.out.2.c_keep HC.out.1 hF34 (fun _ _ e => e), HPP.out.1.v_keep hV hF4 (fun _ _ e => e), fun i hi => ⟨HC.out.2.1 i hi, fun hu => ?_, fun e => ?_⟩, fun i hi => ⟨?_, fun e => ?_⟩⟩, (HC.out.2.2.trans hF34 (fun _ _ e => e)), fun i e => ?_⟩, World.ownsRow_made w3 #[] 0 (by omega) (Nat.zero_le _) (by simp)⟩
      · have := k1 i hi; have := hU i hu; omega
      · have e : w3.heap.size = i := Option.some.inj e
        have := k1 _ hi; omega
      · have := hU i hi; omega
      · have e : w3.heap.size = i := Option.some.inj e
        have := k2 _ hi; omega
      · have e : w3.heap.size = i := Option.some.inj e
        omega)
    clear hV hU hF3
    obtain ⟨n1, hn1⟩ : ∃ n1, n1 = n + 1 := ⟨_, rfl⟩
    have HN1 := Lib.hid hn1
    have hn1b : 1 ≤ n1 ∧ n1 ≤ 289 := by omega
    obtain ⟨q1, q2⟩ := hn1b
    clear hn1
    go_wp2_with fail
    go_loopw [8, 9] (fun v8 v9 wr => ∃ (i q : Nat) (p : Option Addr) (c0 : Nat), i ≤ 200 ∧ i ≤ m ∧ q ≤ i ∧ v9 = .int .i64 i ∧ v8 = .slice p q c0 ∧ Hid (∃ T : List Int, q = T.length ∧ (∀ s ∈ T, hasB l s = true) ∧ JV V C w c l v (fun b => (Value.slice p q c0).ownBlock = some b) wr (encS l T) ∧ wr.ownsRow w.heap.size 3 1 (.slice p q c0) q (is T))) (fun _ v _ => m - (intOf v).toNat)
    case atStart => exact ⟨0, 0, _, _, by omega, Nat.zero_le _, Nat.le_refl _, rfl, rfl, (show ∃ T : List Int, _ from ⟨[], rfl, (fun s hs => by cases hs), H3.out⟩)⟩
    case round =>
      obtain ⟨i, q, p, c0, hi2, him, hqi, rfl, rfl, HT0⟩ := hrel
      obtain ⟨T, hT⟩ := HT0.out
      have HT := Lib.hid hT
      clear HT0 hT H3
      have hcase : (i < m ∧ i < 200) ∨ (i < m ∧ i = 200) ∨ i = m := by omega
      rcases hcase with ⟨hlt, hlt2⟩ | hexit
      · have hil : i < sy.length := by have := HS.out.2; omega
        obtain ⟨blk, off, rfl, -, hc, -, -⟩ := (HS.out.1.still HT.out.2.2.1.fr (Nat.le_refl _)).at_ hil
        obtain ⟨y, hy⟩ : ∃ y, y = sy[i] := ⟨_, rfl⟩
        rw [← hy] at hc
        have hlt3 : (i : Int) < 200 := by omega
        have hnn : (n : Int) + 1 = (n1 : Int) := by have := HN1.out; omega
        have HAM := Lib.hid (fun w0 : World => among_nat w0 y n1 q1 (by omega))
        clear hil hy
        go_wp2_with fail
        refine (HAM.out wr).mono ?_
        rintro e w' ⟨s, hs, rfl, rfl⟩
        have hsn : s ≤ n := by have := HN1.out; omega
        have HWR := Lib.hid (HT.out.2.2.1.write HPP.out.1 HPP.out.2 (s : Int) (by have := encS_len HOK.out T; have := HT.out.1; omega) (by omega))
        clear hs hnn HAM hc
        obtain ⟨t, ht⟩ : ∃ t, t = n - 1 := ⟨_, rfl⟩
        have hcase : s = n ∨ ((s = 0 ∧ s < n ∧ ¬ 0 < t) ∨ (s = t ∧ s < n ∧ 0 < t) ∨ (s < t ∧ s < n ∧ 0 < t)) := by omega
        rcases hcase with hsn2 | hcase
        · have hno := has_past (l := l) (s := s) (hsn2.trans HN.out)
          rw [(symL_no (L := encS l T) hno).1, (symL_no (L := encS l T) hno).2] at HWR
          have hns : ¬ (s : Int) < n := by omega
          clear hno hsn2 ht
          go_wp2_with fail
          refine HWR.out.mono ?_
          rintro e w5 ⟨rfl, hk, hj, _⟩
          have HD := Lib.hid (⟨T, HT.out.1, HT.out.2.1, hj, row_kp HT.out.2.2.2 hk⟩ : ∃ T : List Int, q = T.length ∧ (∀ s ∈ T, hasB l s = true) ∧ JV V C w c l v (fun b => (Value.slice p q c0).ownBlock = some b) w5 (encS l T) ∧ w5.ownsRow w.heap.size 3 1 (.slice p q c0) q (is T))
          clear hk hj HWR
          go_wp2_with fail
          go_roundw
          case rel => exact ⟨i + 1, q, p, c0, by omega, by omega, by omega, by go_num, rfl, HD⟩
          case measure => simp [intOf]; omega
        · have hsl : s < l.length := by have := HN.out; omega
          have hget := List.getElem?_eq_getElem hsl
          have hx0 := (((okB_iff l).1 HOK.out).2.1 l[s] (List.getElem_mem hsl)).1
          obtain ⟨x, hx⟩ : ∃ x, x = l[s] := ⟨_, rfl⟩
          rw [← hx] at hget hx0
          have hhas := has_at hget
          have hnm : (n : Int) - 1 = (t : Int) := by omega
          have HRL := Lib.hid (⟨HI.out.1, hget⟩ : _ ∧ _)
          clear hget hx hsl ht
          by_cases hxp : 0 < x
          · rw [decide_eq_true hxp] at hhas
            rw [(symL_yes (L := encS l T) hhas).1, (symL_yes (L := encS l T) hhas).2, Int.toNat_natCast] at HWR
            have HH := Lib.hid hhas
            clear hhas
            rcases hcase with ⟨h0, g2, g3⟩ | ⟨rfl, g2, g3⟩ | ⟨g1, g2, g3⟩
            case' inl =>
              subst h0
              rw [show ((0 : Nat) : Int) = 0 from rfl] at *
              go_wp2_with fail
              refine HWR.out.mono ?_
              rintro e w5 ⟨rfl, hk, hj, _⟩
              obtain ⟨bl, of, rfl, -, hcl, -, -⟩ := (HRL.out.1.still hj.fr (Nat.le_refl _)).at_ (List.getElem?_eq_some_iff.1 HRL.out.2).1
              rw [(List.getElem?_eq_some_iff.1 HRL.out.2).2, Nat.add_zero] at hcl
              have HJ := Lib.hid (⟨row_kp HT.out.2.2.2 hk, hj.still HPP.out.1 HPP.out.2 ((Fr.refl (fun _ => False) w5).alloc (.cells #[.int .i64 0] 3)), hj.fr.alloc (.cells #[.int .i64 0] 3)⟩ : _ ∧ _ ∧ _)
              clear hk hj HWR
              go_wp2_with (at_builtin; refine wpList_append_own_at _ rfl (.tmp 74) (.tmp 76) 22 rfl w.heap.size 3 i0 (.int .i64 0) 1 8 Try.underlying22 HII.out.1 HII.out.2.1 HII.out.2.2.1 HII.out.2.2.2 rfl (by omega) _ q (is T) rfl (World.ownsRow.alloc HJ.out.1 _) ⟨w5.heap.size, 0, none⟩ 1 1 [.int .i64 0] rfl rfl (newsI _ (heap_alloc_new _ _)) (oneI _) (by unfold maxLen; omega) (by omega) HJ.out.2.2.size ?_; intro v9 w9 hown9 hg9 _ hat9)
              obtain ⟨p', c', e', ho', hj'⟩ := jv_snoc HPP.out.1 HPP.out.2 HT.out.1 HJ.out.2.1 hown9 hg9 hat9
              subst e'
              have HD := Lib.hid (⟨T ++ [0], by rw [List.length_append, ← HT.out.1]; rfl, fun z hz => by
                rcases List.mem_append.1 hz with hz | hz
                · exact HT.out.2.1 z hz
                · rw [List.mem_singleton.1 hz]; exact HH.out, by rw [encS_snoc]; exact hj', ho'⟩ : ∃ T : List Int, q + 1 = T.length ∧ (∀ s ∈ T, hasB l s = true) ∧ JV V C w c l v (fun b => (Value.slice p' (q + 1) c').ownBlock = some b) w9 (encS l T) ∧ w9.ownsRow w.heap.size 3 1 (.slice p' (q + 1) c') (q + 1) (is T))
              clear hown9 hg9 hat9 ho' hj'
              go_wp2_with fail
              go_roundw
              case rel => exact ⟨i + 1, q + 1, p', c', by omega, by omega, by omega, by go_num, rfl, HD⟩
              case measure => simp [intOf]; omega
            all_goals
              go_wp2_with fail
              refine HWR.out.mono ?_
              rintro e w5 ⟨rfl, hk, hj, _⟩
              obtain ⟨bl, of, rfl, -, hcl, -, -⟩ := (HRL.out.1.still hj.fr (Nat.le_refl _)).at_ (List.getElem?_eq_some_iff.1 HRL.out.2).1
              rw [(List.getElem?_eq_some_iff.1 HRL.out.2).2] at hcl
              have HJ := Lib.hid (⟨row_kp HT.out.2.2.2 hk, hj.still HPP.out.1 HPP.out.2 ((Fr.refl (fun _ => False) w5).alloc (.cells #[.int .i64 (s : Int)] 3)), hj.fr.alloc (.cells #[.int .i64 (s : Int)] 3)⟩ : _ ∧ _ ∧ _)
              clear hk hj HWR
              go_wp2_with (at_builtin; refine wpList_append_own_at _ rfl (.tmp 74) (.tmp 76) 22 rfl w.heap.size 3 i0 (.int .i64 0) 1 8 Try.underlying22 HII.out.1 HII.out.2.1 HII.out.2.2.1 HII.out.2.2.2 rfl (by omega) _ q (is T) rfl (World.ownsRow.alloc HJ.out.1 _) ⟨w5.heap.size, 0, none⟩ 1 1 [.int .i64 (s : Int)] rfl rfl (newsI _ (heap_alloc_new _ _)) (oneI _) (by unfold maxLen; omega) (by omega) HJ.out.2.2.size ?_; intro v9 w9 hown9 hg9 _ hat9)
              obtain ⟨p', c', e', ho', hj'⟩ := jv_snoc HPP.out.1 HPP.out.2 HT.out.1 HJ.out.2.1 hown9 hg9 hat9
              subst e'
              have HD := Lib.hid (⟨T ++ [(s : Int)], by rw [List.length_append, ← HT.out.1]; rfl, fun z hz => by
                rcases List.mem_append.1 hz with hz | hz
                · exact HT.out.2.1 z hz
                · rw [List.mem_singleton.1 hz]; exact HH.out, by rw [encS_snoc]; exact hj', ho'⟩ : ∃ T : List Int, q + 1 = T.length ∧ (∀ s ∈ T, hasB l s = true) ∧ JV V C w c l v (fun b => (Value.slice p' (q + 1) c').ownBlock = some b) w9 (encS l T) ∧ w9.ownsRow w.heap.size 3 1 (.slice p' (q + 1) c') (q + 1) (is T))
              clear hown9 hg9 hat9 ho' hj'
              go_wp2_with fail
              go_roundw
              case rel => exact ⟨i + 1, q + 1, p', c', by omega, by omega, by omega, by go_num, rfl, HD⟩
              case measure => simp [intOf]; omega
          · rw [decide_eq_false hxp] at hhas
            rw [(symL_no (L := encS l T) hhas).1, (symL_no (L := encS l T) hhas).2] at HWR
            clear hhas
            rcases hcase with ⟨h0, g2, g3⟩ | ⟨rfl, g2, g3⟩ | ⟨g1, g2, g3⟩
            case' inl =>
              subst h0
              rw [show ((0 : Nat) : Int) = 0 from rfl] at *
              go_wp2_with fail
              refine HWR.out.mono ?_
              rintro e w5 ⟨rfl, hk, hj, _⟩
              obtain ⟨bl, of, rfl, -, hcl, -, -⟩ := (HRL.out.1.still hj.fr (Nat.le_refl _)).at_ (List.getElem?_eq_some_iff.1 HRL.out.2).1
              rw [(List.getElem?_eq_some_iff.1 HRL.out.2).2, Nat.add_zero] at hcl
              have HD := Lib.hid (⟨T, HT.out.1, HT.out.2.1, hj, row_kp HT.out.2.2.2 hk⟩ : ∃ T : List Int, q = T.length ∧ (∀ s ∈ T, hasB l s = true) ∧ JV V C w c l v (fun b => (Value.slice p q c0).ownBlock = some b) w5 (encS l T) ∧ w5.ownsRow w.heap.size 3 1 (.slice p q c0) q (is T))
              clear hk hj HWR
              go_wp2_with fail
              go_roundw
              case rel => exact ⟨i + 1, q, p, c0, by omega, by omega, by omega, by go_num, rfl, HD⟩
              case measure => simp [intOf]; omega
            all_goals
              go_wp2_with fail
              refine HWR.out.mono ?_
              rintro e w5 ⟨rfl, hk, hj, _⟩
              obtain ⟨bl, of, rfl, -, hcl, -, -⟩ := (HRL.out.1.still hj.fr (Nat.le_refl _)).at_ (List.getElem?_eq_some_iff.1 HRL.out.2).1
              rw [(List.getElem?_eq_some_iff.1 HRL.out.2).2] at hcl
              have HD := Lib.hid (⟨T, HT.out.1, HT.out.2.1, hj, row_kp HT.out.2.2.2 hk⟩ : ∃ T : List Int, q = T.length ∧ (∀ s ∈ T, hasB l s = true) ∧ JV V C w c l v (fun b => (Value.slice p q c0).ownBlock = some b) w5 (encS l T) ∧ w5.ownsRow w.heap.size 3 1 (.slice p q c0) q (is T))
              clear hk hj HWR
              go_wp2_with fail
              go_roundw
              case rel => exact ⟨i + 1, q, p, c0, by omega, by omega, by omega, by go_num, rfl, HD⟩
              case measure => simp [intOf]; omega
      · have hexit2 : (i < m ∧ ¬ (i : Int) < 200) ∨ ¬ i < m := by omega
        clear hexit
        obtain ⟨B, hB⟩ : ∃ B, B = packI (encS l T) := ⟨_, rfl⟩
        have hEL : (encS l T).length ≤ 3000 := by have := encS_len HOK.out T; have := HT.out.1; omega
        have HALL := Lib.hid (HT.out.2.2.1.all HPP.out.1 HPP.out.2 (by omega))
        rw [← hB] at HALL
        obtain ⟨nB, hnB⟩ : ∃ n, n = B.length := ⟨_, rfl⟩
        have HBB := Lib.hid (⟨hB, hnB, by rw [hnB, hB, packI_length]; omega⟩ : B = packI (encS l T) ∧ nB = B.length ∧ nB ≤ 3000)
        rw [← hnB] at HALL
        clear hB hEL hnB
        rcases hexit2 with ⟨h1, h2⟩ | h1
        all_goals
          go_wp2_with fail
          refine HALL.out.mono ?_
          rintro e w5 ⟨A3, cap3, rfl, ho, hk, hj⟩
          have hoR : Own w5 wr.heap.size (.slice A3 B.length cap3) B := by rw [← HBB.out.2.1]; exact ho
          have HO := Lib.hid (⟨Own.rd hoR, own_cap2 hoR, row_kp HT.out.2.2.2 hk⟩ : Rd w5 w5.heap.size A3 B ∧ ((A3 = none → cap3 = 0) ∧ B.length ≤ cap3) ∧ w5.ownsRow w.heap.size 3 1 (.slice p q c0) q (is T))
          have HRN := Lib.hid (hj.reader HPP.out.1 HPP.out.2 A3 cap3 B HO.out.1 HO.out.2.1.1 HO.out.2.1.2 (by have := HBB.out.2; omega))
          rw [← HBB.out.2.1] at HRN
          clear ho hk hj hoR HALL
          go_wp2_with fail
          refine HRN.out.mono ?_
          rintro e w6 ⟨a, rfl, hk6, hj6⟩
          have H6 := Lib.hid (⟨hj6, row_kp HO.out.2.2 hk6⟩ : J3 R V C w c l a B v (encS l T) (fun b => (Value.slice p q c0).ownBlock = some b) w6 0 ∧ w6.ownsRow w.heap.size 3 1 (.slice p q c0) q (is T))
          clear hk6 hj6 HRN
          go_wp2_with fail
          go_loopw [13] (fun v13 wr => ∃ j : Nat, j ≤ q ∧ v13 = .int .i64 j ∧ Hid (J3 R V C w c l a B v (encS l T) (fun b => (Value.slice p q c0).ownBlock = some b) wr (encS l (T.take j)).length ∧ wr.ownsRow w.heap.size 3 1 (.slice p q c0) q (is T))) (fun v _ => q - (intOf v).toNat)
          case atStart => exact ⟨0, Nat.zero_le _, rfl, (show _ ∧ _ from H6.out)⟩
          case round =>
            obtain ⟨j, hjq, rfl, HK⟩ := hrel
            clear H6
            by_cases hltj : j < q
            · have hjl : j < T.length := by have := HT.out.1; omega
              have hget := List.getElem?_eq_getElem hjl
              obtain ⟨s, hs⟩ : ∃ s, s = T[j] := ⟨_, rfl⟩
              rw [← hs] at hget
              have hhas := HT.out.2.1 s (List.mem_of_getElem? hget)
              have hsn : ((s.toNat : Nat) : Int) = s := by have := ((hasB_iff l s).1 hhas).1; omega
              have hrd := read_at HOK.out hget hhas
              rw [← HBB.out.1] at hrd
              have hR := HK.out.1.read HPP.out.1 HPP.out.2
              rw [hrd] at hR
              simp only [hsn] at hR
              have HRD := Lib.hid hR
              have HG := Lib.hid (⟨hjl, hs⟩ : ∃ h : j < T.length, s = T[j])
              clear hget hhas hsn hrd hR hs hjl
              go_wp2_with fail
              refine HRD.out.mono ?_
              rintro e w7 ⟨rfl, hk7, hj7⟩
              have hrow := row_kp HK.out.2 hk7
              have hoI : OwnI w7 w.heap.size (.slice p T.length c0) T := by
                unfold OwnI
                rw [← HT.out.1]
                exact hrow
              obtain ⟨hjl, hs⟩ := HG.out
              obtain ⟨g, rfl, -, -, hcj, -, -⟩ := hoI.at_ hjl
              rw [← hs] at hcj
              have HD := Lib.hid (⟨hj7, hrow⟩ : _ ∧ _)
              clear hk7 hj7 hrow hoI hs hjl HRD
              go_wp2_with fail
              go_roundw
              case rel => exact ⟨j + 1, by omega, by go_num, HD⟩
              case measure => simp [intOf]; omega
            · have hjq2 : j = q := by omega
              have hE : (T.take j).length = T.length := by rw [List.length_take]; have := HT.out.1; omega
              have hEL : T.take j = T := List.take_of_length_le (by have := HT.out.1; omega)
              have hJ := HK.out.1
              rw [hEL] at hJ
              have HAT := Lib.hid (hJ.at_ HPP.out.1 HPP.out.2)
              clear hjq2 hE hEL hJ
              go_wp2_with fail
              refine HAT.out.mono ?_
              rintro e w8 ⟨rfl, h8⟩
              have HLN := Lib.hid (h8.len HPP.out.1 HPP.out.2)
              clear h8 HAT
              go_wp2_with fail
              refine HLN.out.mono ?_
              rintro e w9 ⟨rfl, h9⟩
              have HF := Lib.hid h9.fr
              clear h9 HLN
              go_wp2_with fail
              go_ret
              exact ⟨rfl, HF.out⟩
end
end Go.Proofs.Ytnibbopdjeagoaa.cd
