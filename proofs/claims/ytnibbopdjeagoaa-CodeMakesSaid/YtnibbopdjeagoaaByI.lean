/-
  Slices of numbers that the call owns; the helper SameInts.
-/
import Derived.Test.YtnibbopdjeagoaaBy
namespace Go.Proofs.Ytnibbopdjeagoaa
set_option maxRecDepth 100000
open Go.RowKit Go.Maps Go.ChangeShapes Go.WideShapes Go.Deep

theorem infoI : (Try.prog.info? 3).map (fun i => (i.zero, i.size, i.bytes)) = some (some (.int .i64 0), 1, 8) := by kernel_rfl

/-- Numbers as cells. -/
def is (l : List Int) : List Value := l.map (.int .i64)
theorem is_length (l : List Int) : (is l).length = l.length := by unfold is; rw [List.length_map]
theorem is_append (a b : List Int) : is (a ++ b) = is a ++ is b := by unfold is; rw [List.map_append]
theorem is_get (l : List Int) (j : Nat) : (is l)[j]? = l[j]?.map (.int .i64) := by unfold is; rw [List.getElem?_map]
theorem is_one (l : List Int) : ∀ u ∈ is l, u.oneCell' = true := by
  unfold is
  intro u hu
  obtain ⟨b, _, rfl⟩ := List.mem_map.1 hu
  rfl
theorem is_set (l : List Int) (k : Nat) (c : Int) : (is l).set k (.int .i64 c) = is (l.set k c) := by unfold is; rw [List.map_set]

/-- A slice of the call's own that holds these numbers. -/
def OwnI (w : World) (base : Nat) (v : Value) (l : List Int) : Prop := w.ownsRow base 3 1 v l.length (is l)
theorem OwnI.kept {w w' : World} {base : Nat} {v : Value} {l : List Int} (h : OwnI w base v l) (hF : Fr (fun _ => False) w w') : OwnI w' base v l := by
  obtain ⟨h1, h2⟩ := h
  refine ⟨h1, ?_⟩
  rcases h2 with h2 | ⟨g, cap, cur, hv, hg, hh, r⟩
  · exact Or.inl h2
  · exact Or.inr ⟨g, cap, cur, hv, hg, (hF.block g (Array.getElem?_eq_some_iff.1 hh).1 id).trans hh, r⟩
theorem OwnI.cell {w : World} {base cap : Nat} {A : Option Addr} {l : List Int} (h : OwnI w base (.slice A l.length cap) l) (hne : l ≠ []) :
    ∃ g, A = some ⟨g, 0, none⟩ ∧ base ≤ g ∧ g < w.heap.size ∧ ∀ j x, l[j]? = some x → w.cell? ⟨g, j, none⟩ = some (.int .i64 x) := by
  obtain ⟨_, h2⟩ := h
  rcases h2 with ⟨_, h0⟩ | ⟨g, cap', cur, hv, hg, hh, _, _, _, ht⟩
  · exact absurd (List.eq_nil_of_length_eq_zero h0) hne
  · cases hv
    refine ⟨g, rfl, hg, (Array.getElem?_eq_some_iff.1 hh).1, fun j x hj => ?_⟩
    rw [cellAt hh, ← Array.getElem?_toList]
    have h1 : (cur.toList.take (l.length * 1))[j]? = some (.int .i64 x) := by rw [ht, is_get, hj]; rfl
    rw [List.getElem?_take] at h1
    split at h1
    · exact h1
    · cases h1
theorem OwnI.rd {w : World} {base cap : Nat} {A : Option Addr} {l : List Int} (h : OwnI w base (.slice A l.length cap) l) (hb : ∀ x ∈ l, -9223372036854775808 ≤ x ∧ x ≤ 9223372036854775807) : RdI w w.heap.size A l := by
  refine ⟨fun hne => ?_, hb⟩
  obtain ⟨g, hg, _, hlt, hc⟩ := h.cell hne
  exact ⟨g, 0, hg, hlt, fun j x hj => by rw [Nat.zero_add]; exact hc j x hj⟩
/-- Where an own slice lies, if it holds a number. -/
theorem OwnI.at_ {w : World} {base cap : Nat} {A : Option Addr} {l : List Int} (h : OwnI w base (.slice A l.length cap) l) {k : Nat} (hk : k < l.length) :
    ∃ g, A = some ⟨g, 0, none⟩ ∧ base ≤ g ∧ g < w.heap.size ∧ w.cell? ⟨g, k, none⟩ = some (.int .i64 l[k]) ∧ w.frozen? ⟨g, k, none⟩ = false ∧
      ∀ c : Int, OwnI (w.setCell ⟨g, k, none⟩ (.int .i64 c)) base (.slice A (l.set k c).length cap) (l.set k c) := by
  obtain ⟨h1, h2⟩ := id h
  rcases h2 with ⟨_, h0⟩ | ⟨g, cap', cur, hv, hg, hh, hn, hm, hs, ht⟩
  · omega
  · cases hv
    obtain ⟨g', e, _, _, hc⟩ := h.cell (by intro e; subst e; simp at hk)
    cases e
    refine ⟨g, rfl, hg, (Array.getElem?_eq_some_iff.1 hh).1, hc k _ (List.getElem?_eq_getElem hk), freeAt hh k, fun c => ⟨by rw [is_length]; omega, Or.inr ⟨g, cap, cur.setIfInBounds k (.int .i64 c), rfl, hg, ?_, ?_, hm, ?_, ?_⟩⟩⟩
    · exact heap_setCell_same _ _ _ _ _ _ hh
    · rw [List.length_set]; exact hn
    · rw [Array.size_setIfInBounds]; exact hs
    · rw [Array.toList_setIfInBounds, List.length_set, List.take_set, ht, is_set]
theorem ownI_made (w : World) (l : List Int) (h : l.length ≤ maxLen) : OwnI (w.alloc (.cells (is l).toArray 3)) w.heap.size (.slice (some ⟨w.heap.size, 0, none⟩) l.length l.length) l :=
  ⟨by rw [is_length, Nat.mul_one], Or.inr ⟨w.heap.size, l.length, (is l).toArray, rfl, Nat.le_refl _, heap_alloc_new _ _, Nat.le_refl _, h, by simp [is_length], by rw [Nat.mul_one]; exact List.take_of_length_le (by simp [is_length])⟩⟩
/-- .. or nil, or a slice with an address: what an append leaves. -/
theorem OwnI.shape {w : World} {base n : Nat} {v : Value} {l : List Int} {xs : List Value} (hn : n = l.length) (hx : xs = is l) (h : w.ownsRow base 3 1 v n xs) : ∃ A cap, v = .slice A l.length cap ∧ OwnI w base (.slice A l.length cap) l := by
  subst hn
  subst hx
  obtain ⟨h1, h2⟩ := id h
  rcases h2 with ⟨rfl, h0⟩ | ⟨g, cap, cur, rfl, hg, hh, r⟩
  · refine ⟨none, 0, by rw [h0], ?_⟩
    rw [h0]
    exact h
  · exact ⟨_, cap, rfl, h⟩

theorem takeI_same_succ {l1 l2 : List Int} {k : Nat} (h : l1.take k = l2.take k) (h1 : k < l1.length) (h2 : k < l2.length) (e : l1[k] = l2[k]) : l1.take (k + 1) = l2.take (k + 1) := by
  rw [List.take_succ_eq_append_getElem h1, List.take_succ_eq_append_getElem h2, h, e]

set_option maxRecDepth 100000 in
set_option maxHeartbeats 1000000 in
theorem sameI_core (w : World) (A1 A2 : Option Addr) (B1 B2 c1 c2 : Nat) (l1 l2 : List Int) (hr1 : RdI w B1 A1 l1) (hr2 : RdI w B2 A2 l2) (hl : l1.length = l2.length) (hb : l1.length ≤ 140737488351232) :
    Calls Try.prog 14 #[.slice A1 l1.length c1, .slice A2 l2.length c2] w fun e w' => e = .returned (.bool (decide (l1 = l2))) ∧ Calm w w' := by
  obtain ⟨n, hn⟩ : ∃ n, n = l1.length := ⟨_, rfl⟩
  rw [← hl, ← hn]
  have hb' : n ≤ 140737488351232 := by omega
  have HR1 := Lib.hid hr1
  have HR2 := Lib.hid hr2
  have HN := Lib.hid hn
  have HL := Lib.hid hl
  clear hr1 hr2 hn hl hb
  go_enter Try.func14, Try.ntmps14
  go_wp2_with fail
  go_loopw [5] (fun i wr => ∃ k : Nat, k ≤ n ∧ i = .int .i64 k ∧ Hid (l1.take k = l2.take k ∧ Calm w wr)) (fun i _ => n - (intOf i).toNat)
  case atStart => exact ⟨0, Nat.zero_le _, rfl, (show _ ∧ _ from ⟨rfl, Calm.refl _⟩)⟩
  case round =>
    obtain ⟨k, hk, rfl, HC⟩ := hrel
    by_cases hlt : k < n
    · have hk1 : k < l1.length := by have := HN.out; omega
      have hk2 : k < l2.length := by have := HN.out; have := HL.out; omega
      obtain ⟨b1, o1, rfl, _, d1, q1⟩ := (HR1.out.calm HC.out.2).at_ hk1
      obtain ⟨b2, o2, rfl, _, d2, q2⟩ := (HR2.out.calm HC.out.2).at_ hk2
      clear q1 q2
      by_cases he : l1[k] = l2[k]
      · have HE := Lib.hid (takeI_same_succ HC.out.1 hk1 hk2 he)
        rw [← he] at d2
        obtain ⟨x, hxx⟩ : ∃ x : Int, x = l1[k] := ⟨_, rfl⟩
        rw [← hxx] at d1 d2
        have h0 : (0 : Int) ≤ k := by omega
        have h1 : (k : Int) < n := by omega
        clear he hk1 hk2 hxx
        go_wp2_with fail
        go_quiet (fail)
        go_wp2
        go_roundw
        case rel => exact ⟨k + 1, by omega, by go_num, (show _ ∧ _ from ⟨HE.out, HC.out.2.trans ⟨nq, rfl⟩⟩)⟩
        case measure => simp [intOf]; omega
      · have hd : decide (l1 = l2) = false := decide_eq_false (fun e => he (by subst e; rfl))
        have HD := Lib.hid hd
        have hne : (l1[k] != l2[k]) = true := by
          rw [bne_iff_ne]
          exact he
        obtain ⟨x, hxx⟩ : ∃ x : Int, x = l1[k] := ⟨_, rfl⟩
        obtain ⟨y, hyy⟩ : ∃ y : Int, y = l2[k] := ⟨_, rfl⟩
        rw [← hxx] at d1 hne
        rw [← hyy] at d2 hne
        have h0 : (0 : Int) ≤ k := by omega
        have h1 : (k : Int) < n := by omega
        clear he hk1 hk2 hxx hyy hd
        go_wp2_with fail
        go_quiet (fail)
        go_wp2
        go_ret
        exact ⟨by rw [HD.out]; rfl, HC.out.2.trans ⟨nq, rfl⟩⟩
    · have hkn : k = n := by omega
      subst hkn
      have hd : decide (l1 = l2) = true := decide_eq_true (by
        have h := HC.out.1
        rw [List.take_of_length_le (by have := HN.out; omega), List.take_of_length_le (by have := HN.out; have := HL.out; omega)] at h
        exact h)
      have HD := Lib.hid hd
      clear hd
      go_wp2_with fail
      go_wp2
      go_ret
      exact ⟨by rw [HD.out]; rfl, HC.out.2⟩

set_option maxHeartbeats 400000 in
theorem sameI_len (w : World) (p1 p2 : Option Addr) (n1 n2 c1 c2 : Nat) (h : n1 ≠ n2) :
    Calls Try.prog 14 #[.slice p1 n1 c1, .slice p2 n2 c2] w fun e w' => e = .returned (.bool false) ∧ w = w' := by
  have hne : ((n1 : Int) != (n2 : Int)) = true := by rw [bne_iff_ne]; omega
  clear h
  go_enter Try.func14, Try.ntmps14
  go_wp2
  go_ret
  exact ⟨rfl, rfl⟩

theorem sameI_any (w : World) (A1 A2 : Option Addr) (B1 B2 c1 c2 : Nat) (l1 l2 : List Int) (hr1 : RdI w B1 A1 l1) (hr2 : RdI w B2 A2 l2) (hb : l1.length ≤ 140737488351232) :
    Calls Try.prog 14 #[.slice A1 l1.length c1, .slice A2 l2.length c2] w fun e w' => e = .returned (.bool (decide (l1 = l2))) ∧ Calm w w' := by
  by_cases h : l1.length = l2.length
  · exact sameI_core w A1 A2 B1 B2 c1 c2 l1 l2 hr1 hr2 h hb
  · refine (sameI_len w A1 A2 _ _ c1 c2 h).mono ?_
    rintro e w' ⟨rfl, rfl⟩
    exact ⟨by rw [decide_eq_false (fun e => h (by rw [e]))], Calm.refl _⟩

end Go.Proofs.Ytnibbopdjeagoaa
