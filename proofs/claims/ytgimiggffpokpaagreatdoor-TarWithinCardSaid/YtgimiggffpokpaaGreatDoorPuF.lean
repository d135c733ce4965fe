/-
  The program's start and follow.
-/
import Derived.Test.YtgimiggffpokpaaGreatDoorPuE
namespace Go.Proofs.YtgimiggffpokpaaGreatDoor.pt
set_option maxRecDepth 100000
open Go.RowKit Go.Maps
set_option maxRecDepth 100000
attribute [local go_sem] Oper.semAt_some

theorem ss_len_of {w : World} {base n size : Nat} {e : TypeId} {v : Value} {xs : List Value} (h : w.ownsRow base e size v n xs) (h0 : 0 < n) : ∃ g cap, v = .slice (some ⟨g, 0, none⟩) n cap ∧ n ≤ cap ∧ cap ≤ maxLen := by
  rcases h.2 with ⟨_, h0'⟩ | ⟨g, cap, cur, rfl, _, _, hn, _, hm, _⟩
  · omega
  · exact ⟨g, cap, rfl, hn, by omega⟩
set_option maxHeartbeats 4000000 in
theorem pstart (w : World) (s t : ByteArray) (hs : s.size ≤ 1099511627776) : Calls Tryz.prog 75 #[.string s, .string t] w (RowS w w.heap.size (startT s.toList t.toList)) := by
  have HB := Lib.hid (Any.strings_HasPrefix Tryz.hasP t ⟨#[47]⟩ w)
  have hp : Lib.hasPrefix t.data.toList (⟨#[47]⟩ : ByteArray).data.toList = decide (t.toList.head? = some 47) := by
    rw [← toL, ← toL, show (⟨#[47]⟩ : ByteArray).toList = [47] from tx_toL [47]]
    unfold Lib.hasPrefix
    cases t.toList with
    | nil => rfl
    | cons x r =>
      rw [Bool.eq_iff_iff, decide_eq_true_eq, List.isPrefixOf_iff_prefix]
      constructor
      · rintro ⟨a, e⟩; rw [← e]; rfl
      · intro e
        have : x = 47 := by simpa using e
        exact ⟨r, by rw [this]; rfl⟩
  rw [hp] at HB
  unfold startT
  by_cases h : t.toList.head? = some 47
  · rw [if_pos h]
    rw [decide_eq_true h] at HB
    have HN := Lib.hid (World.ownsRow_nil w w.heap.size 9 1)
    clear hp h
    go_enter Tryz.func75, Tryz.ntmps75
    go_wp2_with (go_at_call 14; refine HB.out.mono ?_; rintro e w' ⟨rfl, rfl⟩)
    go_ret
    exact ⟨_, rfl, HN.out, Below.refl _ _⟩
  · rw [if_neg h]
    rw [decide_eq_false h] at HB
    have HP := Lib.hid (pparts w s)
    have b0 := Boxed.new w 9 (.string s)
    have hVB : Below w.heap.size w (w.alloc (.cells #[.string s] 9)) := (Below.refl _ w).alloc (Nat.le_refl _) _
    have HC := Lib.hid (pcollect (w.alloc (.cells #[.string s] 9)) s hs w.heap.size (by simp) b0.cell)
    have HVB := Lib.hid hVB
    have hsz : 0 < (splitB 47 s.toList).length := List.length_pos_iff.2 (split_ne _ _)
    obtain ⟨m, hm⟩ : ∃ m, (splitB 47 s.toList).length = m + 1 := ⟨(splitB 47 s.toList).length - 1, by omega⟩
    have HM := Lib.hid hm
    have HUP := Lib.hid (fun wx g cap (h1 : m + 1 ≤ cap) (h2 : cap ≤ 9223372036854775807) => pup wx g m cap h1 h2)
    have HDL := Lib.hid (show (splitB 47 s.toList).dropLast.length = m by rw [List.length_dropLast, hm]; rfl)
    have HSP := Lib.hid (show ss (splitB 47 s.toList) = ss (splitB 47 s.toList).dropLast ++ ss [(splitB 47 s.toList).getLast (split_ne _ _)] by rw [← ss_append, List.dropLast_concat_getLast])
    clear hp h hVB b0 hsz hm hs
    go_enter Tryz.func75, Tryz.ntmps75
    go_wp2_with (first
      | (go_at_call 14; refine HB.out.mono ?_; rintro e w' ⟨rfl, rfl⟩)
      | (go_at_call 12; refine HP.out.mono ?_; rintro e w' ⟨rfl, rfl⟩)
      | (go_at_call 98; refine HC.out.mono ?_; rintro e w' ⟨v, rfl, h1, h2⟩; rw [HM.out] at h1; obtain ⟨g, cap, rfl, hc1, hc2⟩ := ss_len_of h1 (by omega); have HH := Lib.hid (⟨h1, h2⟩ : _ ∧ _); clear h1 h2)
      | (go_at_call 97; refine (HUP.out _ _ _ hc1 (by unfold maxLen at hc2; omega)).mono ?_; rintro e w' ⟨rfl, rfl⟩))
    go_ret
    refine ⟨_, rfl, ?_, HVB.out.trans (HH.out.2.mono (by simp))⟩
    rw [HDL.out]
    have h := HH.out.1
    rw [HSP.out] at h
    exact own_base (ownsRow_pop (by rw [ss_length, HDL.out, Nat.mul_one]) h) (by simp)
/-- How many names there may be. -/
theorem step_count {ps qs : List Tx} {n : Tx} (hs : stepT (some ps) n = some qs) : qs.length ≤ ps.length + 1 := by
  unfold stepT at hs
  simp only [Option.bind_some] at hs
  by_cases h1 : n = [] ∨ n = [46]
  · rw [if_pos h1] at hs; cases hs; omega
  · rw [if_neg h1] at hs
    by_cases h2 : n = [46, 46]
    · rw [if_pos h2] at hs
      by_cases h3 : ps = []
      · rw [if_pos h3] at hs; cases hs
      · rw [if_neg h3] at hs; cases hs; rw [List.length_dropLast]; omega
    · rw [if_neg h2] at hs
      by_cases h3 : nmT n = true
      · rw [if_pos h3] at hs; cases hs; rw [List.length_append]; exact Nat.le_refl _
      · rw [if_neg h3] at hs; cases hs
theorem res_follow (tmps : Array Value) (w : World) (B1 B2 : Nat) (v1 v2 : Value) (hp : tmps[4]?.getD undef = .pointer (some ⟨B1, 0, none⟩)) (hq : tmps[5]?.getD undef = .pointer (some ⟨B2, 0, none⟩)) (hc : w.cell? ⟨B1, 0, none⟩ = some v1) (hd : w.cell? ⟨B2, 0, none⟩ = some v2) : (results Tryz.f74 tmps).run Tryz.prog w = .ok (.tuple #[v1, v2]) w := by
  simp [results, Tryz.f74, go_sem, hp, hq, hc, hd]
/-- What follow answers: the names on the stack, or none. -/
def FolA (w : World) (base : Nat) (r : Option (List Tx)) (e : Ending) (w' : World) : Prop :=
  ((r = none ∧ e = .returned (.tuple #[.slice none 0 0, .bool false])) ∨ ∃ ps v, r = some ps ∧ e = .returned (.tuple #[v, .bool true]) ∧ w'.ownsRow base 9 1 v ps.length (ss ps)) ∧ Below base w w'
set_option maxHeartbeats 16000000 in
theorem pfollow (w : World) (base : Nat) (hbase : base ≤ w.heap.size) (A : Option Addr) (n0 cap0 : Nat) (s t : ByteArray) (hok : okT s.toList = true) (hne : s.toList ≠ []) (ht : t.size ≤ 1099511627776)
    (hn0 : n0 = (startT s.toList t.toList).length) (hown : w.ownsRow base 9 1 (.slice A n0 cap0) n0 (ss (startT s.toList t.toList))) :
    Calls Tryz.prog 74 #[.slice A n0 cap0, .string t] w (FolA w base (goT s.toList t.toList (splitB 47 t.toList).length)) := by
  obtain ⟨N, hN⟩ : ∃ N, N = (splitB 47 t.toList).length := ⟨_, rfl⟩
  have HN := Lib.hid hN
  rw [← hN]
  have hNt : N ≤ t.size + 1 := by
    have := (split_len (c := 47) (l := t.toList)).2
    rw [toL_len, ← hN] at this
    exact this
  have HTG : TgI s.toList t.toList 0 (tx (joinB 47 (startT s.toList t.toList))) (startT s.toList t.toList) :=
    ⟨goT_zero _ _, start_names hok hne, rfl, by have := start_len (a := s.toList) (b := t.toList); have := okT_len hok; omega⟩
  have hM : (startT s.toList t.toList).length ≤ 201 := by
    unfold startT
    split
    · exact Nat.zero_le _
    · rw [List.length_dropLast]
      have := (split_len (c := 47) (l := s.toList)).2
      have := okT_len hok
      omega
  obtain ⟨a, ha⟩ : ∃ a, a = s.toList := ⟨_, rfl⟩
  obtain ⟨b, hb⟩ : ∃ b, b = t.toList := ⟨_, rfl⟩
  rw [← ha, ← hb] at HTG hM hown hn0 ⊢
  rw [← hb] at hN HN
  have HTB := Lib.hid hb
  have HPP := Lib.hid (fun wx => callsIn_wide (n := 2) |>.2 (pparts wx t))
  obtain ⟨B0, hB0⟩ : ∃ B0, B0 = w.heap.size := ⟨_, rfl⟩
  obtain ⟨B1, hB1⟩ : ∃ B1, B1 = w.heap.size + 1 := ⟨_, rfl⟩
  obtain ⟨B2, hB2⟩ : ∃ B2, B2 = w.heap.size + 1 + 1 := ⟨_, rfl⟩
  obtain ⟨B3, hB3⟩ : ∃ B3, B3 = w.heap.size + 1 + 1 + 1 := ⟨_, rfl⟩
  obtain ⟨V, hV⟩ : ∃ V, V = (((w.alloc (.cells #[.slice A n0 cap0] 37)).alloc (.cells #[.slice none 0 0] 37)).alloc (.cells #[.bool false] 4)).alloc (.cells #[.string t] 9) := ⟨_, rfl⟩
  have v0 : Boxed V B0 37 (.slice A n0 cap0) := by rw [hV, hB0]; exact (((Boxed.new w _ _).alloc _).alloc _).alloc _
  have v1 : Boxed V B1 37 (.slice none 0 0) := by
    have := Boxed.new (w.alloc (.cells #[.slice A n0 cap0] 37)) 37 (.slice none 0 0)
    rw [World.size_alloc] at this
    rw [hV, hB1]
    exact (this.alloc _).alloc _
  have v2 : Boxed V B2 4 (.bool false) := by
    have := Boxed.new ((w.alloc (.cells #[.slice A n0 cap0] 37)).alloc (.cells #[.slice none 0 0] 37)) 4 (.bool false)
    rw [World.size_alloc, World.size_alloc] at this
    rw [hV, hB2]
    exact this.alloc _
  have v3 : Boxed V B3 9 (.string t) := by
    have := Boxed.new (((w.alloc (.cells #[.slice A n0 cap0] 37)).alloc (.cells #[.slice none 0 0] 37)).alloc (.cells #[.bool false] 4)) 9 (.string t)
    rw [World.size_alloc, World.size_alloc, World.size_alloc] at this
    rw [hV, hB3]
    exact this
  have hVB : Below base w V := by
    rw [hV]
    exact ((((Below.refl base w).alloc hbase _).alloc (by simp; omega) _).alloc (by simp; omega) _).alloc (by simp; omega) _
  have vo : V.ownsRow base 9 1 (.slice A n0 cap0) n0 (ss (startT a b)) := by rw [hV]; exact (((hown.alloc _).alloc _).alloc _).alloc _
  have hVs : V.heap.size = w.heap.size + 1 + 1 + 1 + 1 := by rw [hV]; simp
  have HSEQ : rn.SeqN Fence.wide 2 Tryz.prog 21 #[.pointer (some ⟨B3, 0, none⟩)] (encP b) N V := by
    rw [hN, hb]
    exact parts_seq 2 (by omega) t ht _ _ v3.lt v3.cell
  have HBS := Lib.hid (show base ≤ B0 ∧ base ≤ B1 ∧ base ≤ B2 ∧ B0 ≠ B1 ∧ B0 ≠ B2 ∧ B1 ≠ B2 ∧ B0 < V.heap.size ∧ B1 < V.heap.size ∧ B2 < V.heap.size ∧ base ≤ V.heap.size by omega)
  refine (callsIn_wide (n := 3)).1 ?_
  refine callsIn_of_wp_marks Tryz.func74 rfl trivial ?_ rfl
  simp only [Tryz.ntmps74, List.size_toArray, List.length_cons, List.length_nil, Nat.reduceAdd, Nat.reduceSub, Array.replicate_succ, Array.replicate_zero, List.push_toArray, List.append_toArray, List.nil_append, List.cons_append]
  have HEQ := Lib.hid (⟨hV, hB0, hB1, hB2, hB3, hn0⟩ : _ ∧ _ ∧ _ ∧ _ ∧ _ ∧ _)
  clear hV hB0 hB1 hB2 hB3 hVs hown hok hne ha hb hN
  have hn0h := Lib.hid hn0
  clear hn0
  gi_wp2_with (refine ⟨trivial, ?_⟩; gi_at_call 12; refine (HPP.out _).mono ?_; rintro e w' ⟨rfl, rfl⟩)
  rw [← HEQ.out.1, ← HEQ.out.2.2.2.2.1, ← HEQ.out.2.2.2.1, ← HEQ.out.2.2.1, ← HEQ.out.2.1]
  clear HEQ
  obtain ⟨i0, hi, hz0, hz1, hz2⟩ := info_parts infoS
  refine rn.rangeN rfl (by omega) (gf := 21) (lb := #[.pointer (some ⟨B3, 0, none⟩)]) rfl trivial (enters_of Tryz.func21 (by kernel_rfl) rfl) HSEQ (Below.refl _ _) (fun _ => rfl)
    (fun k W => (∃ ps : List Tx, (TgI a b k (tx (joinB 47 ps)) ps ∧ ps.length ≤ 201 + k) ∧ ∃ v, Boxed W B0 37 v ∧ W.ownsRow base 9 1 v ps.length (ss ps) ∧ True) ∧ Boxed W B1 37 (.slice none 0 0) ∧ Boxed W B2 4 (.bool false) ∧ Below base w W)
    (fun k W => goT a b N = none ∧ Boxed W B1 37 (.slice none 0 0) ∧ Boxed W B2 4 (.bool false) ∧ Below base w W)
    (OwnFrom.and (fun k X Y row ⟨ps, h1, h2⟩ hg hr => ⟨ps, h1, (Own.from (holdsRow_own base B0 37 9 1 (fun ps : List Tx => ps.length) ss (fun _ _ => True)) _) ps X Y row h2 hg hr⟩) (OwnFrom.and (Own.from (boxed_own _ _ _) _) (OwnFrom.and (Own.from (boxed_own _ _ _) _) (ownFrom_below hbase HBS.out.2.2.2.2.2.2.2.2.2))))
    (OwnFrom.and (ownFrom_pure _ _) (OwnFrom.and (Own.from (boxed_own _ _ _) _) (OwnFrom.and (Own.from (boxed_own _ _ _) _) (ownFrom_below hbase HBS.out.2.2.2.2.2.2.2.2.2))))
    ⟨⟨_, ⟨HTG, by omega⟩, _, v0, by rw [← hn0h.out]; exact vo, trivial⟩, v1, v2, hVB⟩
    (fun k => { tmps := #[.slice A n0 cap0, .string t, .pointer (some ⟨B0, 0, none⟩), undef, .pointer (some ⟨B1, 0, none⟩), .pointer (some ⟨B2, 0, none⟩), .string (tx (pkB b k)), .string t, .func (.func 21) #[] #[.pointer (some ⟨B3, 0, none⟩)], .string (tx (pkB b k)), undef, undef, undef, undef, undef, undef, undef, undef, undef, undef, undef, undef, undef, undef, undef, undef, undef, undef, undef, undef, undef, undef, undef, undef, undef], defers := [] }) ?assign ?body ?done ?stop
  case assign =>
    intro l k W K hK
    gi_wp2
    exact hK
  case body =>
    rintro l k W hk ⟨⟨ps, ⟨hT, hpl⟩, v, hb0, hrow, -⟩, hb1, hb2, hB⟩
    obtain ⟨n1, n2, n3, n4, n5, n6, n7, n8, n9, n10⟩ := HBS.out
    have c0 := hb0.cell
    have f0 := hb0.frozen
    have c1 := hb1.cell
    have f1 := hb1.frozen
    have c2 := hb2.cell
    have f2 := hb2.frozen
    have d2 : ∀ u, (W.setCell ⟨B1, 0, none⟩ u).cell? ⟨B2, 0, none⟩ = some (.bool false) := fun u => (hb2.other n6.symm u).cell
    have g2 : ∀ u, (W.setCell ⟨B1, 0, none⟩ u).frozen? ⟨B2, 0, none⟩ = false := fun u => (hb2.other n6.symm u).frozen
    have hx : (splitB 47 b)[k]? = some (pkB b k) := by
      have hk2 : k < (splitB 47 b).length := by rw [← HN.out]; exact hk
      unfold pkB
      rw [List.getElem?_eq_getElem hk2]
      rfl
    have hpf := pk_free b k
    rw [HTB.out, toL_len, ← HTB.out] at hpf
    have HIN := Lib.hid (fun wx => pisname wx (tx (pkB b k)) (by unfold maxLen; rw [tx_size (pkB b k)]; omega) (by rw [tx_toL (pkB b k)]; exact hpf.1))
    rw [tx_toL (pkB b k)] at HIN
    have hn1 : (1 : Nat) ≤ 3 - 1 - 1 := by omega
    have HB0 := Lib.hid hb0
    have HB1 := Lib.hid hb1
    have HB2 := Lib.hid hb2
    have HBL := Lib.hid hB
    have HRW := Lib.hid hrow
    have HT := Lib.hid hT
    have HPL := Lib.hid hpl
    have HKN := Lib.hid hk
    obtain ⟨x, hxx⟩ : ∃ x, x = pkB b k := ⟨_, rfl⟩
    rw [← hxx] at hx HIN hpf ⊢
    have HX := Lib.hid hx
    clear hx hxx
    obtain ⟨X, hX⟩ : ∃ X, X = tx x := ⟨_, rfl⟩
    have HXT := Lib.hid (show X.toList = x by rw [hX, tx_toL])
    rw [← hX] at HIN ⊢
    by_cases h1 : x = [] ∨ x = [46]
    · have HGO := Lib.hid (HT.out.stay HX.out h1)
      have HKF := Lib.hid (KeepsFrom.refl V.heap.size W)
      rcases h1 with h1 | h1
      · obtain rfl : X = ⟨#[]⟩ := by rw [hX, h1]
        clear hX h1 hb0 hb1 hb2 hB hrow hT hpl hpf
        gi_wp2_with fail
        exact ⟨HKF.out, ⟨ps, ⟨HGO.out, by have := HPL.out; omega⟩, v, HB0.out, HRW.out, trivial⟩, HB1.out, HB2.out, HBL.out⟩
      · obtain rfl : X = ⟨#[46]⟩ := by rw [hX, h1]
        clear hX h1 hb0 hb1 hb2 hB hrow hT hpl hpf
        gi_wp2_with fail
        exact ⟨HKF.out, ⟨ps, ⟨HGO.out, by have := HPL.out; omega⟩, v, HB0.out, HRW.out, trivial⟩, HB1.out, HB2.out, HBL.out⟩
    have h1a : x ≠ [] := fun e => h1 (Or.inl e)
    have h1b : x ≠ [46] := fun e => h1 (Or.inr e)
    by_cases h2 : x = [46, 46]
    · by_cases h3 : ps = []
      · have HGN := Lib.hid (goT_more (show goT a b (k + 1) = none by have h := HT.out; subst h3; exact h.root (by rw [← h2]; exact HX.out)) (show k + 1 ≤ N from hk))
        have hnm : nmT x = false := by rw [h2]; rfl
        rw [hnm] at HIN
        have hv0 : ∃ A' cap', v = .slice A' 0 cap' := by
          subst h3
          obtain ⟨A', cap', e, _⟩ := OwnS.shape (l := []) rfl rfl HRW.out
          exact ⟨A', cap', e⟩
        obtain ⟨A', cap', rfl⟩ := hv0
        obtain rfl : X = ⟨#[46, 46]⟩ := by rw [hX, h2]
        clear hX h1 h1a h1b h2 h3 hb0 hb1 hb2 hB hrow hT hpl hpf hnm
        gi_wp2_with (refine ⟨trivial, ?_⟩; gi_at_call 13; refine (CallsIn.inRound l (callsIn_wide.2 (HIN.out W))).mono ?_; rintro e w' ⟨rfl, rfl⟩)
        exact ⟨((KeepsOthers.setCell _ _ _).trans (KeepsOthers.setCell _ _ _)).from _, HGN.out, (HB1.out.set _).other n6 _, (HB2.out.other n6.symm _).set _, (HBL.out.setCell (p := ⟨B1, 0, none⟩) n2 _).setCell (p := ⟨B2, 0, none⟩) n3 _⟩
      · obtain ⟨m, hm⟩ : ∃ m, ps.length = m + 1 := ⟨ps.length - 1, by have := List.length_pos_iff.2 h3; omega⟩
        have HGO := Lib.hid (show TgI a b (k + 1) (tx (joinB 47 ps.dropLast)) ps.dropLast from by
          have h := HT.out.up (by rw [← h2]; exact HX.out) h3
          rwa [tx_toL, parent_join h3 HT.out.names.free] at h)
        have hr2 := HRW.out
        rw [hm] at hr2
        obtain ⟨g, cap, rfl, hc1, hc2⟩ := ss_len_of hr2 (by omega)
        have HDL := Lib.hid (show ps.dropLast.length = m by rw [List.length_dropLast, hm]; rfl)
        have HPO := Lib.hid (show W.ownsRow base 9 1 (.slice (some ⟨g, 0, none⟩) m cap) m (ss ps.dropLast) by
          rw [show ss ps = ss ps.dropLast ++ ss [ps.getLast h3] by rw [← ss_append, List.dropLast_concat_getLast]] at hr2
          exact ownsRow_pop (by rw [ss_length, HDL.out, Nat.mul_one]) hr2)
        have HUP := Lib.hid (fun wx => pup wx g m cap hc1 (by unfold maxLen at hc2; omega))
        have HML := Lib.hid hm
        have hm0 : (0 : Int) < (m : Int) + 1 := by omega
        have hm1 : 0 < m + 1 := by omega
        obtain rfl : X = ⟨#[46, 46]⟩ := by rw [hX, h2]
        clear hX h1 h1a h1b h2 h3 hb0 hb1 hb2 hB hrow hT hpl hpf hm hr2 hc1 hc2
        gi_wp2_with (refine ⟨trivial, ?_⟩; gi_at_call 97; refine (CallsIn.inRound l (callsIn_wide.2 (HUP.out W))).mono ?_; rintro e w' ⟨rfl, rfl⟩)
        exact ⟨(KeepsOthers.setCell _ _ _).from _, ⟨ps.dropLast, ⟨HGO.out, by rw [HDL.out]; have := HPL.out; have := HML.out; omega⟩, _, HB0.out.set _, by rw [HDL.out]; exact HPO.out.kept (grownBy_setCell' W B0 _) (.inr (HB0.out.not_row (by decide) HPO.out).symm), trivial⟩, HB1.out.other n4.symm _, HB2.out.other n5.symm _, HBL.out.setCell (p := ⟨B0, 0, none⟩) n1 _⟩
    have k1 : X.toList.isEmpty = false := isE (by rw [HXT.out]; exact h1a)
    have k2 : (X.toList == [46]) = false := beq_eq_false_iff_ne.2 (by rw [HXT.out]; exact h1b)
    have k3 : (X.toList == [46, 46]) = false := beq_eq_false_iff_ne.2 (by rw [HXT.out]; exact h2)
    cases hnm : nmT x with
    | false =>
      have HGN := Lib.hid (goT_more (HT.out.bad HX.out h1a h1b h2 hnm) (show k + 1 ≤ N from hk))
      rw [hnm] at HIN
      clear hX h1 h1a h1b h2 hb0 hb1 hb2 hB hrow hT hpl hpf hnm
      gi_wp2_with (refine ⟨trivial, ?_⟩; gi_at_call 13; refine (CallsIn.inRound l (callsIn_wide.2 (HIN.out W))).mono ?_; rintro e w' ⟨rfl, rfl⟩)
      exact ⟨((KeepsOthers.setCell _ _ _).trans (KeepsOthers.setCell _ _ _)).from _, HGN.out, (HB1.out.set _).other n6 _, (HB2.out.other n6.symm _).set _, (HBL.out.setCell (p := ⟨B1, 0, none⟩) n2 _).setCell (p := ⟨B2, 0, none⟩) n3 _⟩
    | true =>
      have HGO := Lib.hid (show TgI a b (k + 1) (tx (joinB 47 (ps ++ [x]))) (ps ++ [x]) from by
        have h := HT.out.push HX.out h1a h1b h2 hnm
        rwa [tx_toL, joinT_join HT.out.names h1a] at h)
      rw [hnm] at HIN
      obtain ⟨n, hn⟩ : ∃ n, n = ps.length := ⟨_, rfl⟩
      have HNN := Lib.hid hn
      have hnb : n ≤ 1099511627776 + 202 := by have := HPL.out; omega
      have hrow2 : W.ownsRow base 9 1 v n (ss ps) := by rw [hn]; exact HRW.out
      have HSS := Lib.hid (show ss (ps ++ [x]) = ss ps ++ [.string X] by rw [ss_append, hX]; rfl)
      have HNW := Lib.hid (newsS (W.alloc (.cells #[.string X] 9)) (g := W.heap.size) (x := X) (heap_alloc_new W _))
      have HSZ := Lib.hid (show base ≤ (W.alloc (.cells #[.string X] 9)).heap.size by have := HBL.out.size; simp; omega)
      have HBW := Lib.hid (show base ≤ W.heap.size by have := HBL.out.size; omega)
      clear hX h1 h1a h1b h2 hb0 hb1 hb2 hB hrow hT hpl hpf hnm hn
      gi_wp2_with (first
        | (refine ⟨trivial, ?_⟩; gi_at_call 13; refine (CallsIn.inRound l (callsIn_wide.2 (HIN.out W))).mono ?_; rintro e w' ⟨rfl, rfl⟩)
        | (gi_at_builtin; refine wpListIn_append_own _ rfl _ _ 37 rfl base 9 i0 zeroS 1 16 Tryz.underlying37 hi hz0 hz1 hz2 rfl (by decide) v n _ rfl (hrow2.alloc _) ⟨W.heap.size, 0, none⟩ 1 1 [.string X] rfl rfl HNW.out (oneS _) (by unfold maxLen; omega) (by omega) HSZ.out ?_; intro v' w1 hown' hgrow _; obtain ⟨g', cap', rfl⟩ := ownsRow_succ hown'; obtain ⟨hv1, hv2, hr2, hk2, hb2⟩ := HB0.out.appended (by decide) hrow2 HBW.out n1 hown' hgrow; have hc1 := hv1.cell; have hf1 := hv1.frozen; have HAP := Lib.hid (⟨hv2, hr2, hk2, hb2, (HB1.out.alloc (.cells #[.string X] 9)).kept hgrow ((HB1.out.alloc (.cells #[.string X] 9)).not_row (by decide) (hrow2.alloc _)), (HB2.out.alloc (.cells #[.string X] 9)).kept hgrow ((HB2.out.alloc (.cells #[.string X] 9)).not_row (by decide) (hrow2.alloc _))⟩ : _ ∧ _ ∧ _ ∧ _ ∧ _ ∧ _); clear hv1 hv2 hr2 hk2 hb2 hown' hgrow))
      exact ⟨HAP.out.2.2.1.from _, ⟨ps ++ [x], ⟨HGO.out, by rw [List.length_append]; have := HPL.out; simp; omega⟩, _, HAP.out.1, by rw [HSS.out, List.length_append, ← HNN.out]; exact HAP.out.2.1, trivial⟩, HAP.out.2.2.2.2.1.other n4.symm _, HAP.out.2.2.2.2.2.other n5.symm _, HBL.out.trans HAP.out.2.2.2.1⟩
  case done =>
    rintro D W hD ⟨⟨ps, ⟨hT, -⟩, v, hb0, hrow, -⟩, hb1, hb2, hB⟩ hK
    obtain ⟨n1, n2, n3, n4, n5, n6, n7, n8, n9, n10⟩ := HBS.out
    have c0 := hb0.cell
    have c1 := hb1.cell
    have f1 := hb1.frozen
    have d2 : ∀ u, (W.setCell ⟨B1, 0, none⟩ u).cell? ⟨B2, 0, none⟩ = some (.bool false) := fun u => (hb2.other n6.symm u).cell
    have g2 : ∀ u, (W.setCell ⟨B1, 0, none⟩ u).frozen? ⟨B2, 0, none⟩ = false := fun u => (hb2.other n6.symm u).frozen
    have hD2 : base ≤ D := Nat.le_trans n10 hD
    obtain ⟨A', cap', rfl, -⟩ := OwnS.shape rfl rfl hrow
    have HGO := Lib.hid hT.go
    have hK' := ((KeepsOthers.setCell W ⟨B1, 0, none⟩ (.slice A' ps.length cap')).trans (KeepsOthers.setCell _ ⟨B2, 0, none⟩ (.bool true))).same D _ hK rfl
    have HE1 := Lib.hid ((hb1.set (.slice A' ps.length cap')).other n6 (.bool true))
    have HE2 := Lib.hid ((hb2.other n6.symm (.slice A' ps.length cap')).set (.bool true))
    have HR := Lib.hid ((hrow.kept (grownBy_setCell' W B1 (.slice A' ps.length cap')) (.inr (hb1.not_row (by decide) hrow).symm)).kept (grownBy_setCell' _ B2 (.bool true)) (.inr (((hb2.other n6.symm (.slice A' ps.length cap')).not_row (by decide) (hrow.kept (grownBy_setCell' W B1 (.slice A' ps.length cap')) (.inr (hb1.not_row (by decide) hrow).symm)))).symm))
    have HBB := Lib.hid ((hB.setCell (p := ⟨B1, 0, none⟩) n2 (.slice A' ps.length cap')).setCell (p := ⟨B2, 0, none⟩) n3 (.bool true))
    clear hT hb0 hb1 hb2 hrow hB
    gi_wp2
    refine ⟨by simp, .inl ⟨_, _, rfl, run_takeDeferred hK', ?_⟩⟩
    refine ⟨_, res_follow _ _ B1 B2 _ _ rfl rfl (cell_kept HE1.out.cell (grownBy_putObj' _ D (.deferred none)) (fun r e => by cases e; exact ⟨_, hK', rfl⟩)) (cell_kept HE2.out.cell (grownBy_putObj' _ D (.deferred none)) (fun r e => by cases e; exact ⟨_, hK', rfl⟩)), Or.inr ⟨ps, _, HGO.out, rfl, ownsRow_putObj HR.out (.deferred none) hK' rfl⟩, HBB.out.trans (belowK_b (w := V) n10 _ D _ _ hD hK' rfl rfl)⟩
  case stop =>
    rintro D k W hD hk ⟨hg, hb1, hb2, hB⟩ hK
    have HG := Lib.hid hg
    have HE1 := Lib.hid hb1
    have HE2 := Lib.hid hb2
    have HBB := Lib.hid hB
    clear hg hb1 hb2 hB
    gi_wp2
    refine ⟨by simp, .inl ⟨_, _, rfl, run_takeDeferred hK, ?_⟩⟩
    exact ⟨_, res_follow _ _ B1 B2 _ _ rfl rfl (cell_kept HE1.out.cell (grownBy_putObj' _ D (.deferred none)) (fun r e => by cases e; exact ⟨_, hK, rfl⟩)) (cell_kept HE2.out.cell (grownBy_putObj' _ D (.deferred none)) (fun r e => by cases e; exact ⟨_, hK, rfl⟩)), Or.inl ⟨HG.out, rfl⟩, HBB.out.trans (belowK_b (w := V) HBS.out.2.2.2.2.2.2.2.2.2 _ D _ _ hD hK rfl rfl)⟩
end Go.Proofs.YtgimiggffpokpaaGreatDoor.pt
