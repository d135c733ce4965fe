/-
  Slices of numbers that the call owns; the helper SameInts.
-/
import Derived.Test.YtddkgihobcjmmaaBy
namespace Go.Proofs.Ytddkgihobcjmmaa
set_option maxRecDepth 100000
open Go.RowKit Go.Maps Go.ChangeShapes Go.WideShapes Go.Deep

theorem infoI : (Try.prog.info? 3).map (fun i => (i.zero, i.size, i.bytes)) = some (some (.int .i64 0), 1, 8) := by kernel_rfl

/-- Numbers as cells. -/
def is (l : List Int) : List Value := l.map (.int .i64)
theorem is_length (l : List Int) : (is l).length = l.length := by unfold is; rw [List.length_map]
theorem is_append (a b : List Int) : is (a ++ b) = is a ++ is b := by unfold is; rw [List.map_append]
theorem is_get (l : List Int) (j : Nat) : (is l)[j]? = l[j]?.map (.int .i64) := by unfold is; rw [List.getElem?_map]
theorem is_one (l : List Int) : ∀ u ∈ is l, u.oneCell' = true := by
  unfold is
  intro u hu
  obtain ⟨b, _, rfl⟩ := List.mem_map.1 hu
  rfl
theorem is_set (l : List Int) (k : Nat) (c : Int) : (is l).set k (.int .i64 c) = is (l.set k c) := by unfold is; rw [List.map_set]

/-- A slice of the call's own that holds these numbers. -/
def OwnI (w : World) (base : Nat) (v : Value) (l : List Int) : Prop := w.ownsRow base 3 1 v l.length (is l)
theorem OwnI.kept {w w' : World} {base : Nat} {v : Value} {l : List Int} (h : OwnI w base v l) (hF : Fr (fun _ => False) w w') : OwnI w' base v l := by
  obtain ⟨h1, h2⟩ := h
  refine ⟨h1, ?_⟩
  rcases h2 with h2 | ⟨g, cap, cur, hv, hg, hh, r⟩
  · exact Or.inl h2
  · exact Or.inr ⟨g, cap, cur, hv, hg, (hF.block g (Array.getElem?_eq_some_iff.1 hh).1 id).trans hh, r⟩
theorem OwnI.cell {w : World} {base cap : Nat} {A : Option Addr} {l : List Int} (h : OwnI w base (.slice A l.length cap) l) (hne : l ≠ []) :
    ∃ g, A = some ⟨g, 0, none⟩ ∧ base ≤ g ∧ g < w.heap.size ∧ ∀ j x, l[j]? = some x → w.cell? ⟨g, j, none⟩ = some (.int .i64 x) := by
  obtain ⟨_, h2⟩ := h
  rcases h2 with ⟨_, h0⟩ | ⟨g, cap', cur, hv, hg, hh, _, _, _, ht⟩
  · exact absurd (List.eq_nil_of_length_eq_zero h0) hne
  · cases hv
    refine ⟨g, rfl, hg, (Array.getElem?_eq_some_iff.1 hh).1, fun j x hj => ?_⟩
    rw [cellAt hh, ← Array.getElem?_toList]
    have h1 : (cur.toList.take (l.length * 1))[j]? = some (.int .i64 x) := by rw [ht, is_get, hj]; rfl
    rw [List.getElem?_take] at h1
    split at h1
    · exact h1
    · cases h1
theorem OwnI.rd {w : World} {base cap : Nat} {A : Option Addr} {l : List Int} (h : OwnI w base (.slice A l.length cap) l) (hb : ∀ x ∈ l, -9223372036854775808 ≤ x ∧ x ≤ 9223372036854775807) : RdI w w.heap.size A l := by
  refine ⟨fun hne => ?_, hb⟩
  obtain ⟨g, hg, _, hlt, hc⟩ := h.cell hne
  exact ⟨g, 0, hg, hlt, fun j x hj => by rw [Nat.zero_add]; exact hc j x hj⟩
/-- Where an own slice lies, if it holds a number. -/
theorem OwnI.at_ {w : World} {base cap : Nat} {A : Option Addr} {l : List Int} (h : OwnI w base (.slice A l.length cap) l) {k : Nat} (hk : k < l.length) :
    ∃ g, A = some ⟨g, 0, none⟩ ∧ base ≤ g ∧ g < w.heap.size ∧ w.cell? ⟨g, k, none⟩ = some (.int .i64 l[k]) ∧ w.frozen? ⟨g, k, none⟩ = false ∧
      ∀ c : Int, OwnI (w.setCell ⟨g, k, none⟩ (.int .i64 c)) base (.slice A (l.set k c).length cap) (l.set k c) := by
  obtain ⟨h1, h2⟩ := id h
  rcases h2 with ⟨_, h0⟩ | ⟨g, cap', cur, hv, hg, hh, hn, hm, hs, ht⟩
  · omega
  · cases hv
    obtain ⟨g', e, _, _, hc⟩ := h.cell (by intro e; subst e; simp at hk)
    cases e
    refine ⟨g, rfl, hg, (Array.getElem?_eq_some_iff.1 hh).1, hc k _ (List.getElem?_eq_getElem hk), freeAt hh k, fun c => ⟨by rw [is_length]; omega, Or.inr ⟨g, cap, cur.setIfInBounds k (.int .i64 c), rfl, hg, ?_, ?_, hm, ?_, ?_⟩⟩⟩
    · exact heap_setCell_same _ _ _ _ _ _ hh
    · rw [List.length_set]; exact hn
    · rw [Array.size_setIfInBounds]; exact hs
    · rw [Array.toList_setIfInBounds, List.length_set, List.take_set, ht, is_set]
theorem ownI_made (w : World) (l : List Int) (h : l.length ≤ maxLen) : OwnI (w.alloc (.cells (is l).toArray 3)) w.heap.size (.slice (some ⟨w.heap.size, 0, none⟩) l.length l.length) l :=
  ⟨by rw [is_length, Nat.mul_one], Or.inr ⟨w.heap.size, l.length, (is l).toArray, rfl, Nat.le_refl _, heap_alloc_new _ _, Nat.le_refl _, h, by simp [is_length], by rw [Nat.mul_one]; exact List.take_of_length_le (by simp [is_length])⟩⟩
/-- .. or nil, or a slice with an address: what an append leaves. -/
theorem OwnI.shape {w : World} {base n : Nat} {v : Value} {l : List Int} {xs : List Value} (hn : n = l.length) (hx : xs = is l) (h : w.ownsRow base 3 1 v n xs) : ∃ A cap, v = .slice A l.length cap ∧ OwnI w base (.slice A l.length cap) l := by
  subst hn
  subst hx
  obtain ⟨h1, h2⟩ := id h
  rcases h2 with ⟨rfl, h0⟩ | ⟨g, cap, cur, rfl, hg, hh, r⟩
  · refine ⟨none, 0, by rw [h0], ?_⟩
    rw [h0]
    exact h
  · exact ⟨_, cap, rfl, h⟩

theorem takeI_same_succ {l1 l2 : List Int} {k : Nat} (h : l1.take k = l2.take k) (h1 : k < l1.length) (h2 : k < l2.length) (e : l1[k] = l2[k]) : l1.take (k + 1) = l2.take (k + 1) := by
  rw [List.take_succ_eq_append_getElem h1, List.take_succ_eq_append_getElem h2, h, e]




end Go.Proofs.Ytddkgihobcjmmaa
