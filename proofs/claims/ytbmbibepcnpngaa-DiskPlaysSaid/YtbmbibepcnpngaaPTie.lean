/-
  How the disk's values and the document's are the same: mathematics only.
-/
import Derived.Test.YtbmbibepcnpngaaLim
import Derived.Test.YtbmbibepcnpngaaDLoad
import Derived.Test.YtbmbibepcnpngaaRfW
namespace Go.Proofs.Ytbmbibepcnpngaa.play
open Go.RowKit Go.Maps rf

/-- The sectors' values, turn by turn. -/
structure Tie (N c : Nat) (V : Int → Int → List UInt8) (T : Int → Int) (L : Nat → List (List UInt8)) : Prop where
  len : ∀ s : Nat, s < N → ((L s).length : Int) = T s + 1
  val : ∀ (s k : Nat) x, s < N → (L s)[k]? = some x → V s k = x
  cnt : c = pend L N

section
variable {N c : Nat} {V : Int → Int → List UInt8} {T : Int → Int} {L : Nat → List (List UInt8)}

theorem pend_same {L L' : Nat → List (List UInt8)} : ∀ {k : Nat}, (∀ j, j < k → (1 < (L j).length ↔ 1 < (L' j).length)) → pend L k = pend L' k
  | 0, _ => rfl
  | k + 1, h => by
    rw [pend, pend, pend_same (k := k) (fun j hj => h j (by omega))]
    by_cases e : 1 < (L k).length
    · rw [if_pos e, if_pos ((h k (by omega)).1 e)]
    · rw [if_neg e, if_neg (fun e' => e ((h k (by omega)).2 e'))]
theorem pend_none {L : Nat → List (List UInt8)} : ∀ {k : Nat}, (∀ j, j < k → (L j).length = 1) → pend L k = 0
  | 0, _ => rfl
  | k + 1, h => by rw [pend, pend_none (fun j hj => h j (by omega)), h k (by omega)]; rfl
theorem pend_more {L L' : Nat → List (List UInt8)} {j : Nat} : ∀ {k : Nat}, j < k → (∀ i, i ≠ j → L' i = L i) → (L j).length = 1 → 1 < (L' j).length → pend L' k = pend L k + 1
  | 0, h, _, _, _ => absurd h (by omega)
  | k + 1, h, hs, h1, h2 => by
    rw [pend, pend]
    by_cases e : j = k
    · subst e
      rw [pend_same (L := L') (L' := L) (fun i hi => by rw [hs i (by omega)]), if_pos h2, h1]
      rfl
    · rw [pend_more (k := k) (by omega) hs h1 h2, hs k (fun e' => e e'.symm)]
      omega

theorem Tie.pos (h : Tie N c V T L) (hT : ∀ s : Nat, s < N → 0 ≤ T s) {s : Nat} (hs : s < N) : 1 ≤ (L s).length := by
  have := h.len s hs
  have := hT s hs
  omega
theorem Tie.last (h : Tie N c V T L) (hT : ∀ s : Nat, s < N → 0 ≤ T s) {s : Nat} (hs : s < N) : lastOf (L s) = V s (T s) := by
  have h1 := h.pos hT hs
  have h2 := h.val s _ _ hs (last_at h1)
  have h3 := h.len s hs
  rw [show (((L s).length - 1 : Nat) : Int) = T s from by omega] at h2
  exact h2.symm
theorem Tie.first (h : Tie N c V T L) (hT : ∀ s : Nat, s < N → 0 ≤ T s) {s : Nat} (hs : s < N) : firstOf (L s) = V s 0 := by
  have h1 := h.pos hT hs
  have h2 := h.val s 0 (firstOf (L s)) hs (by unfold firstOf; rw [List.getD_eq_getElem?_getD, List.getElem?_eq_getElem (by omega), Option.getD_some])
  exact h2.symm

theorem Tie.write (h : Tie N c V T L) (hT : ∀ s : Nat, s < N → 0 ≤ T s) {j : Nat} (hj : j < N) (x : List UInt8) :
    Tie N (cntUp (T j) c) (upd V j (T j + 1) x) (updT T j (T j + 1)) (updL L j (L j ++ [x])) := by
  have hlj := h.len j hj
  have htj := hT j hj
  refine ⟨fun s hs => ?_, fun s k y hs hk => ?_, ?_⟩
  · unfold updL updT
    by_cases e : s = j
    · subst e
      rw [if_pos rfl, if_pos rfl, List.length_append, List.length_singleton]
      omega
    · rw [if_neg e, if_neg (by omega)]
      exact h.len s hs
  · unfold updL at hk
    by_cases e : s = j
    · subst e
      rw [if_pos rfl] at hk
      rw [List.getElem?_append] at hk
      split at hk
      · rename_i hk'
        have := h.val s k y hs hk
        unfold upd
        rw [if_neg (by omega)]
        exact this
      · rename_i hk'
        have hk2 : k - (L s).length = 0 := by
          rcases Nat.eq_zero_or_pos (k - (L s).length) with e | e
          · exact e
          · rw [List.getElem?_eq_none (by rw [List.length_singleton]; omega)] at hk
            cases hk
        rw [hk2] at hk
        have hy : x = y := by simpa using hk
        unfold upd
        rw [if_pos (by omega)]
        exact hy
    · rw [if_neg e] at hk
      have := h.val s k y hs hk
      unfold upd
      rw [if_neg (by omega)]
      exact this
  · have hs : ∀ i, i ≠ j → updL L j (L j ++ [x]) i = L i := fun i hi => if_neg hi
    have hj1 : updL L j (L j ++ [x]) j = L j ++ [x] := if_pos rfl
    have h2 : 1 < (updL L j (L j ++ [x]) j).length := by
      rw [hj1, List.length_append, List.length_singleton]
      omega
    unfold cntUp
    split
    · rw [h.cnt]
      refine pend_same fun i hi => ?_
      by_cases e : i = j
      · subst e
        exact ⟨fun _ => h2, fun _ => by omega⟩
      · rw [hs i e]
    · rw [pend_more hj hs (by omega) h2, h.cnt]

theorem Tie.sync (h : Tie N c V T L) (hT : ∀ s : Nat, s < N → 0 ≤ T s) {V' : Int → Int → List UInt8} (hV : ∀ s : Nat, s < N → V' s 0 = V s (T s)) : Tie N 0 V' (fun _ => 0) (fun j => [lastOf (L j)]) := by
  refine ⟨fun s hs => by simp, fun s k x hs hk => ?_, (pend_none fun j _ => rfl).symm⟩
  match k, hk with
  | 0, hk =>
    have : lastOf (L s) = x := by simpa using hk
    rw [← this, h.last hT hs]
    exact hV s hs
  | k + 1, hk => simp at hk

/-- Where a sector's number stands among those that were written. -/
theorem rising_at (h : Tie N c V T L) {R : List Int} (hR : Rising T R) (hout : ∀ s, I64 s → (s < 0 ∨ (N : Int) ≤ s) → T s = 0) (hN : N ≤ 4096) :
    ∀ k, k ≤ N → (∀ (i : Nat) x, R[i]? = some x → i < pend L k → x < (k : Int)) ∧ (∀ (i : Nat) x, R[i]? = some x → pend L k ≤ i → (k : Int) ≤ x)
  | 0, _ => by
    refine ⟨fun i x _ hi => absurd hi (by simp [pend]), fun i x hx _ => ?_⟩
    obtain ⟨h1, h2⟩ := (hR.mem x).1 (List.mem_of_getElem? hx)
    rcases Int.lt_or_le x 0 with e | e
    · have := hout x h1 (Or.inl e)
      omega
    · exact e
  | k + 1, hk => by
    obtain ⟨h1, h2⟩ := rising_at h hR hout hN k (by omega)
    have hl := h.len k (by omega)
    rw [pend]
    by_cases e : 1 < (L k).length
    · rw [if_pos e]
      have hm : (k : Int) ∈ R := (hR.mem _).2 ⟨by constructor <;> omega, by omega⟩
      obtain ⟨i0, hi0⟩ := List.getElem?_of_mem hm
      have hs := List.pairwise_iff_getElem.1 hR.sorted
      have lt : ∀ (i i' : Nat) x x', R[i]? = some x → R[i']? = some x' → i < i' → x < x' := by
        intro i i' x x' hi hi' hlt
        obtain ⟨a1, a2⟩ := List.getElem?_eq_some_iff.1 hi
        obtain ⟨b1, b2⟩ := List.getElem?_eq_some_iff.1 hi'
        have := hs i i' a1 b1 hlt
        rw [a2, b2] at this
        exact this
      have hi0' : i0 = pend L k := by
        rcases Nat.lt_trichotomy i0 (pend L k) with e1 | e1 | e1
        · have := h1 i0 _ hi0 e1
          omega
        · exact e1
        · obtain ⟨a1, a2⟩ := List.getElem?_eq_some_iff.1 hi0
          have hp : R[pend L k]? = some (R[pend L k]'(by omega)) := List.getElem?_eq_getElem _
          have := h2 _ _ hp (Nat.le_refl _)
          have := lt _ _ _ _ hp hi0 e1
          omega
      subst hi0'
      refine ⟨fun i x hx hi => ?_, fun i x hx hi => ?_⟩
      · rcases Nat.lt_or_ge i (pend L k) with e1 | e1
        · have := h1 i x hx e1
          omega
        · have e2 : i = pend L k := by omega
          subst e2
          rw [hi0] at hx
          have := Option.some.inj hx
          omega
      · have := lt _ _ _ _ hi0 hx (by omega)
        omega
    · rw [if_neg e]
      refine ⟨fun i x hx hi => ?_, fun i x hx hi => ?_⟩
      · have := h1 i x hx hi
        omega
      · have h3 := h2 i x hx hi
        have h4 := ((hR.mem x).1 (List.mem_of_getElem? hx)).2
        rcases Int.lt_or_le (k : Int) x with e1 | e1
        · omega
        · have : x = (k : Int) := by omega
          subst this
          omega

theorem rising_get (h : Tie N c V T L) {R : List Int} (hR : Rising T R) (hout : ∀ s, I64 s → (s < 0 ∨ (N : Int) ≤ s) → T s = 0) (hN : N ≤ 4096) {s : Nat} (hs : s < N) (ht : 0 < T s) : R[pend L s]? = some (s : Int) := by
  obtain ⟨h1, h2⟩ := rising_at h hR hout hN s (by omega)
  obtain ⟨_, h4⟩ := rising_at h hR hout hN (s + 1) (by omega)
  have hm : (s : Int) ∈ R := (hR.mem _).2 ⟨by constructor <;> omega, ht⟩
  obtain ⟨i0, hi0⟩ := List.getElem?_of_mem hm
  have hl := h.len s hs
  have hp : pend L (s + 1) = pend L s + 1 := by rw [pend, if_pos (by omega)]
  have e1 : pend L s ≤ i0 := by
    rcases Nat.lt_or_ge i0 (pend L s) with e | e
    · have := h1 i0 _ hi0 e
      omega
    · exact e
  have e2 : i0 < pend L s + 1 := by
    rcases Nat.lt_or_ge i0 (pend L s + 1) with e | e
    · exact e
    · have := h4 i0 _ hi0 (by rw [hp]; exact e)
      omega
  have e3 : i0 = pend L s := by omega
  rw [← e3]
  exact hi0

theorem pick_same (P : List Int) (q : Nat) {m : Nat} (h1 : 1 ≤ m) (h2 : m ≤ 1000000) : pickOf P q (m : Int) = ((pickL P q m : Nat) : Int) := by
  unfold pickOf pickL
  cases hq : P[q]? with
  | none => rfl
  | some x =>
    have := amongZ_in (n := x) (m := (m : Int)) (by omega) (by omega)
    simp only
    omega

theorem Tie.crash (h : Tie N c V T L) (hT : ∀ s : Nat, s < N → 0 ≤ T s ∧ T s < 1000000) (hN : N ≤ 4096) {V' : Int → Int → List UInt8} {R P : List Int} (hR : Rising T R) (hout : ∀ s, I64 s → (s < 0 ∨ (N : Int) ≤ s) → T s = 0)
    (hV : ∀ (i : Nat) s, R[i]? = some s → V' s 0 = V s (pickOf P i (T s + 1))) (hV0 : ∀ s, s ∉ R → V' s 0 = V s 0) : Tie N 0 V' (fun _ => 0) (fun i => crashed L P i) := by
  have hT0 : ∀ s : Nat, s < N → 0 ≤ T s := fun s hs => (hT s hs).1
  have one : ∀ s, s < N → (crashed L P s).length = 1 ∧ ∀ x, (crashed L P s)[0]? = some x → V' s 0 = x := by
    intro s hs
    have hl := h.len s hs
    have ht := hT s hs
    unfold crashed
    by_cases e : 1 < (L s).length
    · rw [if_pos e]
      refine ⟨rfl, fun x hx => ?_⟩
      have hp := pickL_in P (pend L s) (len := (L s).length) (by omega) (by omega)
      have hg := hV _ _ (rising_get h hR hout hN hs (by omega))
      rw [← hl, pick_same P _ (by omega) (by omega)] at hg
      have hx' : (L s).getD (pickL P (pend L s) (L s).length) [] = x := Option.some.inj hx
      rw [hg]
      refine h.val s _ x hs ?_
      rw [List.getElem?_eq_getElem hp]
      rw [List.getD_eq_getElem?_getD, List.getElem?_eq_getElem hp] at hx'
      exact congrArg some hx'
    · rw [if_neg e]
      refine ⟨by omega, fun x hx => ?_⟩
      rw [hV0 s (fun hm => by have := ((hR.mem _).1 hm).2; omega)]
      exact h.val s 0 x hs hx
  refine ⟨fun s hs => by rw [(one s hs).1]; rfl, fun s k x hs hk => ?_, (pend_none fun j hj => (one j hj).1).symm⟩
  match k, hk with
  | 0, hk => exact (one s hs).2 x hk
  | k + 1, hk =>
    have := (List.getElem?_eq_some_iff.1 hk).1
    have := (one s hs).1
    omega

end
theorem gath_same {G : Nat → List UInt8} {F : Nat → List UInt8} : ∀ {N : Nat}, (∀ k, k < N → G k = F k) → gath G N = gathL F N
  | 0, _ => rfl
  | N + 1, h => by
    show gath G N ++ G N = gathL F N ++ F N
    rw [gath_same (fun k hk => h k (by omega)), h N (by omega)]
theorem Tie.new (N : Nat) : Tie N 0 (fun _ _ => noughts) (fun _ => 0) (fun _ => [nought]) := by
  refine ⟨fun s hs => by simp, fun s k x hs hk => ?_, (pend_none fun j _ => rfl).symm⟩
  match k, hk with
  | 0, hk => exact (by simpa using hk : nought = x) ▸ rfl
  | k + 1, hk => simp at hk
theorem Tie.load (N : Nat) (l : List UInt8) : Tie N 0 (dl.imgV l N) (fun _ => 0) (fun j => [sect l j]) := by
  refine ⟨fun s hs => by simp, fun s k x hs hk => ?_, (pend_none fun j _ => rfl).symm⟩
  match k, hk with
  | 0, hk =>
    have hx : sect l s = x := by simpa using hk
    rw [← hx]
    unfold dl.imgV
    rw [if_pos (by omega)]
    rfl
  | k + 1, hk => simp at hk
end Go.Proofs.Ytbmbibepcnpngaa.play
