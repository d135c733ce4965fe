/-
  The library's Join at a /; the program's Target.
-/
import Derived.Test.YtgimiggffpokpaaGreatDoorPuF
namespace Go.Proofs.YtgimiggffpokpaaGreatDoor.pt
set_option maxRecDepth 100000
open Go.RowKit Go.Maps
set_option maxRecDepth 100000

theorem joinExtra : Builder.Extra Tryz.prog Tryz.joinS_ren := {
  sizeBuilder := by kernel_rfl
  liesBuilder := by kernel_rfl
  t5 := Tryz.underlying5
  a5 := Tryz.isAgg5
  z5 := Tryz.sizeOf5
  v5 := Tryz.zeroValue5
  infoByte := by kernel_rfl
  cellsByte := by kernel_rfl
  sizeByte := by kernel_rfl
  neB5 := by decide }
/-- The way's bounds, wherever it stands. -/
theorem go_bound {a b : Tx} (h : okT a = true) (hne : a ≠ []) : ∀ (k : Nat) (ps : List Tx), k ≤ (splitB 47 b).length → goT a b k = some ps → TgI a b k (tx (joinB 47 ps)) ps ∧ ps.length ≤ 201 + k
  | 0, ps, _, e => by
    rw [goT_zero] at e
    cases e
    refine ⟨⟨goT_zero _ _, start_names h hne, rfl, by have := start_len (a := a) (b := b); have := okT_len h; omega⟩, ?_⟩
    unfold startT
    split
    · exact Nat.zero_le _
    · rw [List.length_dropLast]
      have := (split_len (c := 47) (l := a)).2
      have := okT_len h
      omega
  | k + 1, ps, hk, e => by
    cases hq : goT a b k with
    | none => rw [goT_more hq (Nat.le_succ k)] at e; cases e
    | some qs =>
      obtain ⟨hT, hl⟩ := go_bound h hne k qs (by omega) hq
      have hx : (splitB 47 b)[k]? = some (pkB b k) := by
        unfold pkB
        rw [List.getElem?_eq_getElem (by omega)]
        rfl
      have hst : ps.length ≤ qs.length + 1 := by
        have e2 := e
        rw [goT_succ hx, hq] at e2
        exact step_count e2
      refine ⟨?_, by omega⟩
      by_cases h1 : pkB b k = [] ∨ pkB b k = [46]
      · have h2 := hT.stay hx h1
        have h3 := h2.go
        rw [e] at h3
        cases h3
        exact h2
      by_cases h2 : pkB b k = [46, 46]
      · by_cases h3 : qs = []
        · subst h3
          rw [hT.root (by rw [← h2]; exact hx)] at e
          cases e
        · have h4 := hT.up (by rw [← h2]; exact hx) h3
          rw [tx_toL, parent_join h3 hT.names.free] at h4
          have h5 := h4.go
          rw [e] at h5
          cases h5
          exact h4
      · have h1a : pkB b k ≠ [] := fun e => h1 (Or.inl e)
        have h1b : pkB b k ≠ [46] := fun e => h1 (Or.inr e)
        cases hnm : nmT (pkB b k) with
        | false =>
          rw [hT.bad hx h1a h1b h2 hnm] at e
          cases e
        | true =>
          have h4 := hT.push hx h1a h1b h2 hnm
          rw [tx_toL, joinT_join hT.names h1a] at h4
          have h5 := h4.go
          rw [e] at h5
          cases h5
          exact h4
theorem join_lib : ∀ ps : List Tx, Lib.join ps [47] = joinB 47 ps
  | [] => rfl
  | [a] => by simp [Lib.join, joinB, List.intercalate, List.intersperse]
  | a :: b :: r => by
    have ih := join_lib (b :: r)
    rw [join_cons (by simp), ← ih]
    simp [Lib.join, List.intercalate, List.intersperse]
set_option maxHeartbeats 1000000 in
theorem pjoins (w : World) (base n : Nat) (v : Value) (ps : List Tx) (hn : n = ps.length) (h : w.ownsRow base 9 1 v n (ss ps)) (hN : n ≤ 140737488355328) (hl : (joinB 47 ps).length ≤ 140737488355328) :
    Calls Tryz.prog 76 #[v, .string ⟨#[47]⟩] w fun e w' => e = .returned (.string (tx (joinB 47 ps))) ∧ Below w.heap.size w w' := by
  by_cases h0 : ps = []
  · obtain ⟨A, cap, rfl, _⟩ := OwnS.shape hn rfl h
    subst h0
    exact (Any.strings_Join_none Tryz.joinS joinExtra A cap ⟨#[47]⟩ w).mono fun e w' ⟨he, hw⟩ => ⟨he, hw ▸ Below.refl _ _⟩
  · have hpos : 0 < n := by rw [hn]; exact List.length_pos_iff.2 h0
    obtain ⟨g, cap, rfl, hc1, _⟩ := ss_len_of h hpos
    have hrd := OwnS.rd (l := ps) (w := w) (base := base) (A := some ⟨g, 0, none⟩) (cap := cap) (by unfold OwnS; rw [← hn]; exact h)
    have e1 : (ps.map tx).map (fun x : ByteArray => x.data.toList) = ps := by
      rw [List.map_map]
      conv => rhs; rw [← List.map_id ps]
      exact List.map_congr_left (fun x _ => rfl)
    have H := Any.strings_Join Tryz.joinS joinExtra g 0 cap (ps.map tx) ⟨#[47]⟩ w (fun j x hx => by
      rw [List.getElem?_map] at hx
      cases hj : ps[j]? with
      | none => rw [hj] at hx; cases hx
      | some y =>
        rw [hj] at hx
        cases hx
        obtain ⟨b, o, e, _, hc⟩ := hrd.at_ hj
        cases e
        exact hc) (by
      obtain ⟨b, o, e, hb, _⟩ := hrd h0
      cases e
      exact hb) (by rw [List.length_map, ← hn]; exact hN) (by rw [List.length_map, ← hn]; exact hc1) (by rw [e1]; show (Lib.join ps [47]).length ≤ _; rw [join_lib]; exact hl)
    rw [List.length_map, ← hn, e1, show Lib.join ps (⟨#[47]⟩ : ByteArray).data.toList = joinB 47 ps from join_lib ps] at H
    exact H
set_option maxHeartbeats 8000000 in
theorem ptarget (w : World) (s t : ByteArray) (hs : s.size ≤ maxLen) (ht : t.size ≤ 1099511627776) :
    Calls Tryz.prog 53 #[.string s, .string t] w (AnsC w (targetL s.toList t.toList)) := by
  by_cases h1 : s.toList = []
  · have HV := Lib.hid (show targetL s.toList t.toList = ([], 140) by unfold targetL; rw [if_pos (Or.inr (Or.inl h1))])
    rw [HV.out]
    obtain rfl : s = ⟨#[]⟩ := empty_tx h1
    have HF := Lib.hid (Fr.refl (fun _ => False) w)
    clear h1 hs ht
    go_enter Tryz.func53, Tryz.ntmps53
    go_wp2_with fail
    go_ret2
    exact ansC_no _ _ HF.out
  have h1' := isE h1
  by_cases h2 : t.toList = []
  · have HV := Lib.hid (show targetL s.toList t.toList = ([], 140) by unfold targetL; rw [if_pos (Or.inr (Or.inr h2))])
    rw [HV.out]
    obtain rfl : t = ⟨#[]⟩ := empty_tx h2
    have HF := Lib.hid (Fr.refl (fun _ => False) w)
    clear h1 h2 hs ht
    go_enter Tryz.func53, Tryz.ntmps53
    go_wp2_with fail
    go_ret2
    exact ansC_no _ _ HF.out
  have h2' := isE h2
  have HCK := Lib.hid (pcheck w s hs)
  cases hk : okT s.toList with
  | false =>
    rw [checkZ_no hk] at HCK
    have HV := Lib.hid (show targetL s.toList t.toList = ([], 140) by unfold targetL; rw [if_pos (Or.inl hk)])
    rw [HV.out]
    clear hk hs ht h1 h2
    go_enter Tryz.func53, Tryz.ntmps53
    go_wp2_with (go_at_call 6; refine HCK.out.mono ?_; rintro e w' ⟨rfl, hF⟩; have HF := Lib.hid hF; clear hF)
    go_ret2
    exact ansC_no _ _ HF.out
  | true =>
    rw [checkZ_ok hk] at HCK
    have hsz : s.size ≤ 200 := by rw [← toL_len]; exact okT_len hk
    obtain ⟨N, hN⟩ : ∃ N, N = (splitB 47 t.toList).length := ⟨_, rfl⟩
    have hNt : N ≤ t.size + 1 := by
      have := (split_len (c := 47) (l := t.toList)).2
      rw [toL_len, ← hN] at this
      exact this
    have HST := Lib.hid (fun wx => pstart wx s t (by omega))
    have HFO := Lib.hid (fun wx base hb A n0 c0 h3 h4 => pfollow wx base hb A n0 c0 s t hk h1 ht h3 h4)
    rw [← hN] at HFO
    have HFAIL := Lib.hid (fun (hg : goT s.toList t.toList N = none) => target_fail (k := N) hk h1 h2 (by rw [hN]; exact Nat.le_refl _) hg)
    have HEND := Lib.hid (fun ps (hg : goT s.toList t.toList N = some ps) => target_end hk h1 h2 (ps := ps) (by rw [← hN]; exact hg))
    have HLEN := Lib.hid (fun ps (hg : goT s.toList t.toList N = some ps) => show ps.length ≤ 140737488355328 ∧ (joinB 47 ps).length ≤ 140737488355328 from by
      obtain ⟨h3, h4⟩ := go_bound hk h1 N ps (by rw [hN]; exact Nat.le_refl _) hg
      have := h3.len
      omega)
    obtain ⟨G, hG⟩ : ∃ G, G = goT s.toList t.toList N := ⟨_, rfl⟩
    rw [← hG] at HFO HFAIL HEND HLEN
    have HTT := Lib.hid (fun wx ps (v : Value) n base h3 h4 h5 h6 => pjoins wx base n v ps h3 h4 h5 h6)
    clear hk hs ht h1 h2 hN hG hNt hsz
    go_enter Tryz.func53, Tryz.ntmps53
    go_wp2_with (go_at_call 6; refine HCK.out.mono ?_; rintro e w1 ⟨rfl, hF⟩; have HF1 := Lib.hid hF; clear hF HCK)
    refine (HST.out _).mono ?_
    rintro e w2 ⟨v, rfl, hr2, hb2⟩
    obtain ⟨A, cap, rfl, -⟩ := OwnS.shape rfl rfl hr2
    have HR2 := Lib.hid (⟨hr2, hb2⟩ : _ ∧ _)
    clear hr2 hb2
    obtain ⟨n0, hn0⟩ : ∃ n0, n0 = (startT s.toList t.toList).length := ⟨_, rfl⟩
    have HN0 := Lib.hid hn0
    rw [← hn0] at HR2 ⊢
    have HFW := Lib.hid (HFO.out w2 w1.heap.size HR2.out.2.size A n0 cap hn0 HR2.out.1)
    clear hn0 HFO
    go_wp2_with fail
    refine HFW.out.mono ?_
    rintro e w3 ⟨(⟨hg, rfl⟩ | ⟨ps, v, hg, rfl, hr3⟩), hb3⟩
    · have HFX := Lib.hid (HF1.out.trans (rn.fr_of_below (HR2.out.2.trans hb3)) (fun _ _ h => h))
      have HV := Lib.hid (HFAIL.out hg)
      clear hg hb3
      go_wp2_with fail
      go_ret2
      rw [HV.out]
      exact ansC_no _ _ HFX.out
    · have HL := HLEN.out ps hg
      have hv := HEND.out ps hg
      have HJ := Lib.hid (pjoins w3 w1.heap.size ps.length v ps rfl hr3 HL.1 HL.2)
      obtain ⟨X, hX⟩ : ∃ X, X = tx (joinB 47 ps) := ⟨_, rfl⟩
      have hXs : X.size = (joinB 47 ps).length := by rw [hX]; exact tx_size _
      have hX9 : X.size ≤ 9223372036854775807 := by rw [hXs]; omega
      have HB3 := Lib.hid (HR2.out.2.trans hb3)
      rw [← hX] at HJ
      rw [← hXs] at hv
      obtain ⟨A3, c3, rfl, -⟩ := OwnS.shape rfl rfl hr3
      have HX := Lib.hid hX
      obtain ⟨n3, hn3⟩ : ∃ n3, n3 = ps.length := ⟨_, rfl⟩
      rw [← hn3] at HJ ⊢
      by_cases hz : X.size ≤ 200
      · rw [if_pos hz] at hv
        have HV := Lib.hid hv
        have hzi : ¬ (200 : Int) < X.size := by omega
        clear hg hb3 hr3 HL hv hX hXs hn3
        go_wp2_with fail
        refine HJ.out.mono ?_
        rintro e w4 ⟨rfl, hb4⟩
        have HFX := Lib.hid (HF1.out.trans (rn.fr_of_below (HB3.out.trans (hb4.mono HB3.out.size))) (fun _ _ h => h))
        clear hb4
        go_wp2_with fail
        go_ret2
        rw [HV.out]
        exact ⟨by rw [← HX.out]; rfl, HFX.out⟩
      · rw [if_neg hz] at hv
        have HV := Lib.hid hv
        have hzi : (200 : Int) < X.size := by omega
        clear hg hb3 hr3 HL hv hX hXs hn3
        go_wp2_with fail
        refine HJ.out.mono ?_
        rintro e w4 ⟨rfl, hb4⟩
        have HFX := Lib.hid (HF1.out.trans (rn.fr_of_below (HB3.out.trans (hb4.mono HB3.out.size))) (fun _ _ h => h))
        clear hb4
        go_wp2_with fail
        go_ret2
        rw [HV.out]
        exact ansC_no _ _ HFX.out
end Go.Proofs.YtgimiggffpokpaaGreatDoor.pt
