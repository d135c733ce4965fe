/-
  The document's Target.
-/
import Derived.Test.YtldlonkaedjdpaaPtF
import Derived.Deep.DeepCutAuto
import Derived.Deep.CutBlock
namespace Go.Proofs.Ytldlonkaedjdpaa.pt
set_option maxRecDepth 100000
open Go.RowKit Go.Maps
set_option maxRecDepth 100000

theorem join_drop_len : ∀ ps : List Tx, (joinB 47 ps.dropLast).length ≤ (joinB 47 ps).length
  | [] => Nat.le_refl _
  | [a] => Nat.zero_le _
  | [a, b] => by simp [joinB]
  | a :: b :: c :: r => by
    have ih := join_drop_len (b :: c :: r)
    have e : (a :: b :: c :: r).dropLast = a :: (b :: c :: r).dropLast := rfl
    rw [e, join_cons (by simp), join_cons (a := a) (r := b :: c :: r) (by simp), List.length_append, List.length_append, List.length_cons, List.length_cons]
    omega
theorem join_push_len {ps : List Tx} {n : Tx} : (joinB 47 (ps ++ [n])).length ≤ (joinB 47 ps).length + 1 + n.length := by
  by_cases e : ps = []
  · subst e; simp [joinB]
  · rw [join_snoc e, List.length_append, List.length_cons]; omega
theorem target_fail {a b : Tx} {k : Nat} (h : okT a = true) (hne : a ≠ []) (hb : b ≠ []) (hk : k ≤ (splitB 47 b).length) (hg : goT a b k = none) : targetL a b = ([], 140) := by
  unfold targetL
  rw [if_neg (by rintro (e | e | e); rw [h] at e; cases e; exact hne e; exact hb e), goT_more hg hk]
theorem target_end {a b : Tx} {ps : List Tx} (h : okT a = true) (hne : a ≠ []) (hb : b ≠ []) (hg : goT a b (splitB 47 b).length = some ps) : targetL a b = if (joinB 47 ps).length ≤ 200 then (joinB 47 ps, 0) else ([], 140) := by
  unfold targetL
  rw [if_neg (by rintro (e | e | e); rw [h] at e; cases e; exact hne e; exact hb e), hg]
theorem start_parent {a b : Tx} (h : b.head? ≠ some 47) : joinB 47 (startT a b) = parentL a := by unfold startT; rw [if_neg h]; rfl
theorem start_root {a b : Tx} (h : b.head? = some 47) : startT a b = [] := if_pos h
theorem start_len {a b : Tx} : (joinB 47 (startT a b)).length ≤ a.length := by
  unfold startT
  by_cases h : b.head? = some 47
  · rw [if_pos h]; exact Nat.zero_le _
  · rw [if_neg h]
    have := join_drop_len (splitB 47 a)
    rwa [join_split] at this
/-- Where the way stands. -/
structure TgI (a b : Tx) (k : Nat) (T : ByteArray) (ps : List Tx) : Prop where
  go : goT a b k = some ps
  names : Names ps
  eq : T = tx (joinB 47 ps)
  len : (joinB 47 ps).length ≤ 200 + 33 * k
theorem TgI.empty {a b : Tx} {k : Nat} {T : ByteArray} {ps : List Tx} (h : TgI a b k T ps) : T.toList = [] ↔ ps = [] := by rw [h.eq, tx_toL]; exact join_nil h.names
theorem TgI.stay {a b : Tx} {k : Nat} {T : ByteArray} {ps : List Tx} (h : TgI a b k T ps) {x : Tx} (hx : (splitB 47 b)[k]? = some x) (he : x = [] ∨ x = [46]) : TgI a b (k + 1) T ps :=
  ⟨by rw [goT_succ hx, h.go]; unfold stepT; simp only [Option.bind_some]; rw [if_pos he], h.names, h.eq, by have := h.len; omega⟩
theorem TgI.up {a b : Tx} {k : Nat} {T : ByteArray} {ps : List Tx} (h : TgI a b k T ps) (hx : (splitB 47 b)[k]? = some [46, 46]) (hne : ps ≠ []) : TgI a b (k + 1) (tx (parentL T.toList)) ps.dropLast :=
  ⟨by rw [goT_succ hx, h.go]; show (if ([46, 46] : Tx) = [] ∨ ([46, 46] : Tx) = [46] then some ps else if ([46, 46] : Tx) = [46, 46] then (if ps = [] then none else some ps.dropLast) else if nmT [46, 46] = true then some (ps ++ [[46, 46]]) else none) = _; rw [if_neg (by simp), if_pos rfl, if_neg hne], h.names.dropLast, by rw [h.eq, tx_toL, parent_join hne h.names.free], by have := h.len; have := join_drop_len ps; omega⟩
theorem TgI.root {a b : Tx} {k : Nat} {T : ByteArray} (h : TgI a b k T []) (hx : (splitB 47 b)[k]? = some [46, 46]) : goT a b (k + 1) = none := by
  rw [goT_succ hx, h.go]
  rfl
theorem TgI.bad {a b : Tx} {k : Nat} {T : ByteArray} {ps : List Tx} (h : TgI a b k T ps) {x : Tx} (hx : (splitB 47 b)[k]? = some x) (h0 : x ≠ []) (h1 : x ≠ [46]) (h2 : x ≠ [46, 46]) (hn : nmT x = false) : goT a b (k + 1) = none := by
  rw [goT_succ hx, h.go]; unfold stepT; simp only [Option.bind_some]
  rw [if_neg (by rintro (e | e); exact h0 e; exact h1 e), if_neg h2, if_neg (by rw [hn]; simp)]
theorem TgI.push {a b : Tx} {k : Nat} {T : ByteArray} {ps : List Tx} (h : TgI a b k T ps) {x : Tx} (hx : (splitB 47 b)[k]? = some x) (h0 : x ≠ []) (h1 : x ≠ [46]) (h2 : x ≠ [46, 46]) (hn : nmT x = true) : TgI a b (k + 1) (tx (joinT T.toList x)) (ps ++ [x]) :=
  ⟨by rw [goT_succ hx, h.go]; unfold stepT; simp only [Option.bind_some]; rw [if_neg (by rintro (e | e); exact h0 e; exact h1 e), if_neg h2, if_pos hn], h.names.snoc hn, by rw [h.eq, tx_toL, joinT_join h.names h0], by have := h.len; have := join_push_len (ps := ps) (n := x); have := (nmT_parts hn).2.2.1; omega⟩
theorem ansC_no (w w' : World) (h : Fr (fun _ => False) w w') : AnsC w ([], 140) (.returned (.tuple #[.string ⟨#[]⟩, .int .i64 140])) w' := ⟨rfl, h⟩

set_option maxHeartbeats 8000000 in
theorem rtarget (w : World) (s t : ByteArray) (hs : s.size ≤ maxLen) (ht : t.size ≤ 1099511627776) :
    Calls Try.prog 16 #[.string s, .string t] w (AnsC w (targetL s.toList t.toList)) := by
  have HCK := Lib.hid (rcheck w s hs)
  cases hk : okT s.toList with
  | false =>
    rw [checkZ_no hk] at HCK
    have HV := Lib.hid (show targetL s.toList t.toList = ([], 140) by unfold targetL; rw [if_pos (Or.inl hk)])
    rw [HV.out]
    clear hk hs ht
    go_enter Try.func16, Try.ntmps16
    go_wp2_with (go_at_call 13; refine HCK.out.mono ?_; rintro e w' ⟨rfl, hF⟩)
    go_ret2
    exact ansC_no _ _ hF
  | true =>
    rw [checkZ_ok hk] at HCK
    by_cases h1 : s.toList = []
    · have HV := Lib.hid (show targetL s.toList t.toList = ([], 140) by unfold targetL; rw [if_pos (Or.inr (Or.inl h1))])
      rw [HV.out]
      clear hk hs ht
      go_enter Try.func16, Try.ntmps16
      go_wp2_with (go_at_call 13; refine HCK.out.mono ?_; rintro e w' ⟨rfl, hF⟩)
      go_ret2
      exact ansC_no _ _ hF
    have h1' := isE h1
    by_cases h2 : t.toList = []
    · have HV := Lib.hid (show targetL s.toList t.toList = ([], 140) by unfold targetL; rw [if_pos (Or.inr (Or.inr h2))])
      rw [HV.out]
      clear hk hs ht h1
      go_enter Try.func16, Try.ntmps16
      go_wp2_with (go_at_call 13; refine HCK.out.mono ?_; rintro e w' ⟨rfl, hF⟩)
      go_ret2
      exact ansC_no _ _ hF
    have h2' := isE h2
    have HOK := Lib.hid (⟨hk, h1, h2⟩ : okT s.toList = true ∧ s.toList ≠ [] ∧ t.toList ≠ [])
    have HPA := Lib.hid (fun wx => rparent wx s hs)
    have HSP := Lib.hid (fun wx => bsplit wx t 47 ht)
    have HSL := Lib.hid (show s.toList.length ≤ 200 from okT_len hk)
    have HPL := Lib.hid (show (∀ p ∈ splitB 47 t.toList, p.length ≤ t.size) ∧ (splitB 47 t.toList).length ≤ t.size + 1 by rw [← toL_len]; exact split_len)
    have h3 : 0 < t.size := by rw [← toL_len]; exact List.length_pos_iff.2 h2
    have HHD := Lib.hid (show t.toList.head? = some t[0] by rw [List.head?_eq_getElem?]; exact toL_get t 0 h3)
    obtain ⟨R, hR⟩ : ∃ R, R = targetL s.toList t.toList := ⟨_, rfl⟩
    have HR := Lib.hid hR
    rw [← hR]
    obtain ⟨y, hy⟩ : ∃ y : Nat, y = t[0].toNat := ⟨_, rfl⟩
    have hsi : (t[0].toNat : Int) = (y : Int) := by rw [hy]
    have HY := Lib.hid hy
    obtain ⟨X, hX⟩ : ∃ X, X = tx (parentL s.toList) := ⟨_, rfl⟩
    have HX := Lib.hid hX
    rw [← hX] at HPA
    clear hk h1 h2 hR hs hy hX
    go_enter Try.func16, Try.ntmps16
    go_upto_if 24 with (first
      | (go_at_call 13; refine HCK.out.mono ?_; rintro e w1 ⟨rfl, hF⟩)
      | (go_at_call 18; refine (HPA.out _).mono ?_; rintro e w2 ⟨rfl, rfl⟩))
    have HF1 := Lib.hid hF
    clear hF HCK
    go_cut [6] (fun s6 wz => ∃ T : ByteArray, s6 = .string T ∧ w1 = wz ∧ Hid (T = tx (joinB 47 (startT s.toList t.toList))))
    case first =>
      by_cases hq : y = 47
      · have hy47 : (y : Int) = 47 := by omega
        have HE := Lib.hid (show tx ([] : Tx) = tx (joinB 47 (startT s.toList t.toList)) by
          rw [start_root (by rw [HHD.out]; exact congrArg some (UInt8.toNat_inj.1 (by rw [← HY.out, hq]; rfl)))]; rfl)
        clear hq
        go_wp2_with fail
        go_meet
        exact ⟨_, rfl, rfl, HE.out⟩
      · have hy47 : ((y : Int) == 47) = false := beq_eq_false_iff_ne.2 (by omega)
        have HE := Lib.hid (show X = tx (joinB 47 (startT s.toList t.toList)) by
          rw [start_parent (by rw [HHD.out]; intro e; exact hq (by rw [HY.out, Option.some.inj e]; rfl))]; exact HX.out)
        clear hq
        go_wp2_with fail
        go_meet
        exact ⟨_, rfl, rfl, HE.out⟩
    obtain ⟨T0, rfl, rfl, HT0⟩ := hcut
    go_wp2_with (go_at_call 34; refine (HSP.out _).mono ?_; rintro e w2 ⟨A, cap, rfl, ho, hF⟩)
    have HRD := Lib.hid ho.rd
    have HF2 := Lib.hid (HF1.out.trans hF (fun _ _ e => e))
    obtain ⟨P, hP⟩ : ∃ P, P = splitB 47 t.toList := ⟨_, rfl⟩
    have HP := Lib.hid hP
    rw [← hP] at HRD HPL
    obtain ⟨n, hn⟩ : ∃ n, n = P.length := ⟨_, rfl⟩
    have HN := Lib.hid hn
    rw [← hP, ← hn]
    have hn2 : n ≤ t.size + 1 := by rw [hn]; exact HPL.out.2
    clear ho hF hn hP HSP HHD HY hsi h2' h1' h3
    go_loopw [6, 8] (fun v6 v8 wr => ∃ (k : Nat) (T : ByteArray), k ≤ n ∧ v6 = .string T ∧ v8 = .int .i64 k ∧ Hid ((∃ ps, TgI s.toList t.toList k T ps) ∧ Fr (fun _ => False) w2 wr)) (fun _ v _ => n - (intOf v).toNat)
    case atStart => exact ⟨0, T0, Nat.zero_le _, rfl, rfl, (show _ ∧ _ from ⟨⟨_, goT_zero _ _, start_names HOK.out.1 HOK.out.2.1, HT0.out, Nat.le_trans start_len (by have := HSL.out; omega)⟩, Fr.refl _ _⟩)⟩
    case round =>
      obtain ⟨k, T, hk, rfl, rfl, HK⟩ := hrel
      obtain ⟨⟨ps, hG⟩, hFr⟩ := HK.out
      have HG := Lib.hid hG
      have HFR := Lib.hid hFr
      clear hG hFr HK HT0
      by_cases hlt : k < n
      · have hkP : k < P.length := by rw [← HN.out]; exact hlt
        obtain ⟨x, hx⟩ : ∃ x, P[k]? = some x := ⟨_, List.getElem?_eq_getElem hkP⟩
        obtain ⟨blk, off, rfl, _, hc⟩ := (HRD.out.still HFR.out (Nat.le_refl _)).at_ hx
        have HX2 := Lib.hid (show (splitB 47 t.toList)[k]? = some x by rw [← HP.out]; exact hx)
        have hxl : x.length ≤ t.size := HPL.out.1 x (List.mem_of_getElem? hx)
        have HTS := Lib.hid (show T.size ≤ 200 + 33 * k by rw [HG.out.eq, tx_size]; exact HG.out.len)
        have HPT := Lib.hid (rparent wr T (by unfold maxLen; have := HTS.out; omega))
        have HNM := Lib.hid (rname wr (tx x) (by rw [tx_size x]; unfold maxLen; omega))
        have HJN := Lib.hid (rjoin wr T (tx x) (by rw [tx_size x]; unfold maxLen; have := HTS.out; omega))
        have HFL := Lib.hid (fun (hg : goT s.toList t.toList (k + 1) = none) => target_fail (k := k + 1) HOK.out.1 HOK.out.2.1 HOK.out.2.2 (by rw [← HP.out, ← HN.out]; exact hlt) hg)
        have HEM := Lib.hid HG.out.empty
        have HFRW := Lib.hid (HF2.out.trans HFR.out (fun _ _ e => e))
        have hYx : (tx x).toList = x := tx_toL x
        rw [hYx] at HNM HJN
        obtain ⟨Y, hY⟩ : ∃ Y, Y = tx x := ⟨_, rfl⟩
        rw [← hY] at hc HNM HJN hYx
        have h5 : (0 : Int) ≤ k := by omega
        have h6 : (k : Int) < n := by omega
        clear hx hY hkP hxl
        by_cases e0 : x = []
        · have HS := Lib.hid (HG.out.stay HX2.out (Or.inl e0))
          have hy0 : Y.toList = [] := by rw [hYx, e0]
          clear e0 hYx
          go_wp2_with (first
          | (go_at_call 35; refine HNM.out.mono ?_; rintro e w3 ⟨rfl, rfl⟩)
          | (go_at_call 18; refine HPT.out.mono ?_; rintro e w3 ⟨rfl, rfl⟩)
          | (go_at_call 22; refine HJN.out.mono ?_; rintro e w3 ⟨rfl, rfl⟩))
          go_roundw
          case rel => exact ⟨k + 1, T, by omega, rfl, by go_num, (show _ ∧ _ from ⟨⟨_, HS.out⟩, HFR.out⟩)⟩
          case measure => simp [intOf]; omega
        by_cases e1 : x = [46]
        · have HS := Lib.hid (HG.out.stay HX2.out (Or.inr e1))
          have hy0 : Y.toList = [46] := by rw [hYx, e1]
          clear e0 e1 hYx
          go_wp2_with (first
          | (go_at_call 35; refine HNM.out.mono ?_; rintro e w3 ⟨rfl, rfl⟩)
          | (go_at_call 18; refine HPT.out.mono ?_; rintro e w3 ⟨rfl, rfl⟩)
          | (go_at_call 22; refine HJN.out.mono ?_; rintro e w3 ⟨rfl, rfl⟩))
          go_roundw
          case rel => exact ⟨k + 1, T, by omega, rfl, by go_num, (show _ ∧ _ from ⟨⟨_, HS.out⟩, HFR.out⟩)⟩
          case measure => simp [intOf]; omega
        have hyE := isE (show Y.toList ≠ [] by rw [hYx]; exact e0)
        by_cases e2 : x = [46, 46]
        · have hy0 : Y.toList = [46, 46] := by rw [hYx, e2]
          have HX3 := Lib.hid (show (splitB 47 t.toList)[k]? = some [46, 46] by rw [← e2]; exact HX2.out)
          by_cases e3 : ps = []
          · have hT0 : T.toList = [] := HEM.out.2 e3
            have HV := Lib.hid (show R = ([], 140) by rw [HR.out]; exact HFL.out ((show TgI s.toList t.toList k T [] by rw [← e3]; exact HG.out).root HX3.out))
            clear e0 e1 e2 e3 hYx hyE
            go_wp2_with (first
          | (go_at_call 35; refine HNM.out.mono ?_; rintro e w3 ⟨rfl, rfl⟩)
          | (go_at_call 18; refine HPT.out.mono ?_; rintro e w3 ⟨rfl, rfl⟩)
          | (go_at_call 22; refine HJN.out.mono ?_; rintro e w3 ⟨rfl, rfl⟩))
            go_ret2
            rw [HV.out]
            exact ansC_no _ _ HFRW.out
          · have hT0 := isE (fun h => e3 (HEM.out.1 h))
            have HS := Lib.hid (HG.out.up HX3.out e3)
            clear e0 e1 e2 e3 hYx hyE
            go_wp2_with (first
          | (go_at_call 35; refine HNM.out.mono ?_; rintro e w3 ⟨rfl, rfl⟩)
          | (go_at_call 18; refine HPT.out.mono ?_; rintro e w3 ⟨rfl, rfl⟩)
          | (go_at_call 22; refine HJN.out.mono ?_; rintro e w3 ⟨rfl, rfl⟩))
            go_roundw
            case rel => exact ⟨k + 1, _, by omega, rfl, by go_num, (show _ ∧ _ from ⟨⟨_, HS.out⟩, HFR.out⟩)⟩
            case measure => simp [intOf]; omega
        have hy1 : (Y.toList == [46]) = false := by rw [hYx]; exact beq_eq_false_iff_ne.2 e1
        have hy2 : (Y.toList == [46, 46]) = false := by rw [hYx]; exact beq_eq_false_iff_ne.2 e2
        cases hn9 : nmT x with
        | false =>
          rw [hn9] at HNM
          have HV := Lib.hid (show R = ([], 140) by rw [HR.out]; exact HFL.out (HG.out.bad HX2.out e0 e1 e2 hn9))
          clear e0 e1 e2 hYx hn9
          go_wp2_with (first
          | (go_at_call 35; refine HNM.out.mono ?_; rintro e w3 ⟨rfl, rfl⟩)
          | (go_at_call 18; refine HPT.out.mono ?_; rintro e w3 ⟨rfl, rfl⟩)
          | (go_at_call 22; refine HJN.out.mono ?_; rintro e w3 ⟨rfl, rfl⟩))
          go_ret2
          rw [HV.out]
          exact ansC_no _ _ HFRW.out
        | true =>
          rw [hn9] at HNM
          have HS := Lib.hid (HG.out.push HX2.out e0 e1 e2 hn9)
          clear e0 e1 e2 hYx hn9
          go_wp2_with (first
          | (go_at_call 35; refine HNM.out.mono ?_; rintro e w3 ⟨rfl, rfl⟩)
          | (go_at_call 18; refine HPT.out.mono ?_; rintro e w3 ⟨rfl, rfl⟩)
          | (go_at_call 22; refine HJN.out.mono ?_; rintro e w3 ⟨rfl, rfl⟩))
          go_roundw
          case rel => exact ⟨k + 1, _, by omega, rfl, by go_num, (show _ ∧ _ from ⟨⟨_, HS.out⟩, HFR.out⟩)⟩
          case measure => simp [intOf]; omega
      · have hkn : k = n := by omega
        have HV := Lib.hid (show R = if (joinB 47 ps).length ≤ 200 then (joinB 47 ps, 0) else ([], 140) by
          rw [HR.out]
          exact target_end HOK.out.1 HOK.out.2.1 HOK.out.2.2 (by rw [← HP.out, ← HN.out, ← hkn]; exact HG.out.go))
        have HTL := Lib.hid (show T.size = (joinB 47 ps).length by rw [HG.out.eq, tx_size])
        have HTE := Lib.hid HG.out.eq
        have HFRW := Lib.hid (HF2.out.trans HFR.out (fun _ _ e => e))
        clear hkn
        by_cases h9 : T.size ≤ 200
        · have h9' : ¬ (200 : Int) < T.size := by omega
          go_wp2_with fail
          go_ret2
          rw [HV.out, if_pos (by rw [← HTL.out]; exact h9)]
          exact ⟨by rw [← HTE.out]; rfl, HFRW.out⟩
        · have h9' : (200 : Int) < T.size := by omega
          go_wp2_with fail
          go_ret2
          rw [HV.out, if_neg (by rw [← HTL.out]; exact h9)]
          exact ansC_no _ _ HFRW.out
end Go.Proofs.Ytldlonkaedjdpaa.pt
