/-
  A row of sectors' bytes that grows, as DiskOne keeps it; the order of the sectors that were written.
-/
import Derived.Test.YtbmbibepcnpngaaLim
namespace Go.Proofs.Ytbmbibepcnpngaa
open Go.RowKit Go.Maps Go.ChangeShapes Go.WideShapes Go.Deep

/-! ### order -/
/-- How many of the first i sectors were written. -/
def cntB (T : Int → Int) : Nat → Nat
  | 0 => 0
  | i + 1 => cntB T i + (if 0 < T i then 1 else 0)

theorem cntB_le (T : Int → Int) : ∀ i, cntB T i ≤ i
  | 0 => Nat.le_refl _
  | i + 1 => by
    have := cntB_le T i
    rw [cntB]
    split <;> omega

theorem cntB_congr {T T' : Int → Int} : ∀ {i : Nat}, (∀ k : Nat, k < i → (0 < T k ↔ 0 < T' k)) → cntB T i = cntB T' i
  | 0, _ => rfl
  | i + 1, h => by
    rw [cntB, cntB, cntB_congr (fun k hk => h k (by omega))]
    have := h i (by omega)
    by_cases h1 : 0 < T i
    · rw [if_pos h1, if_pos (this.1 h1)]
    · rw [if_neg h1, if_neg (fun c => h1 (this.2 c))]

theorem countP_step (i : Int) : ∀ {L : List Int}, L.Pairwise (· < ·) → L.countP (fun x => decide (x < i + 1)) = L.countP (fun x => decide (x < i)) + (if i ∈ L then 1 else 0)
  | [], _ => by simp
  | x :: L, h => by
    have ih := countP_step i (List.pairwise_cons.1 h).2
    have hx := (List.pairwise_cons.1 h).1
    rw [List.countP_cons, List.countP_cons, ih]
    rcases Int.lt_trichotomy x i with e | e | e
    · have d1 : decide (x < i + 1) = true := decide_eq_true (by omega)
      have d2 : decide (x < i) = true := decide_eq_true e
      have hi : (i ∈ x :: L) ↔ i ∈ L := ⟨fun h => by rcases List.mem_cons.1 h with h | h; omega; exact h, fun h => List.mem_cons_of_mem _ h⟩
      simp only [d1, d2, hi, if_true]
      omega
    · subst e
      have hn : x ∉ L := fun hm => by have := hx x hm; omega
      have d1 : decide (x < x + 1) = true := decide_eq_true (by omega)
      have d2 : decide (x < x) = false := decide_eq_false (by omega)
      rw [if_neg hn, d1, d2, if_pos rfl, if_neg (by simp), if_pos (List.mem_cons_self ..)]
    · have hn : i ∉ L := fun hm => by have := hx i hm; omega
      have hn2 : i ∉ x :: L := fun h => by
        rcases List.mem_cons.1 h with h | h
        · omega
        · exact hn h
      have d1 : decide (x < i + 1) = false := decide_eq_false (by omega)
      have d2 : decide (x < i) = false := decide_eq_false (by omega)
      rw [if_neg hn, if_neg hn2, d1, d2]
      simp

theorem countP_at (a : Int) : ∀ {L : List Int}, L.Pairwise (· < ·) → a ∈ L → L[L.countP (fun x => decide (x < a))]? = some a
  | [], _, h => by simp at h
  | x :: L, h, hm => by
    have hx := (List.pairwise_cons.1 h).1
    rw [List.countP_cons]
    rcases Int.lt_trichotomy x a with e | e | e
    · rw [if_pos (by simp; omega), List.getElem?_cons_succ]
      refine countP_at a (List.pairwise_cons.1 h).2 ?_
      rcases List.mem_cons.1 hm with e' | e'
      · omega
      · exact e'
    · subst e
      rw [if_neg (by simp), List.countP_eq_zero.2 (fun y hy => by have := hx y hy; simp; omega)]
      rfl
    · rcases List.mem_cons.1 hm with e' | e'
      · omega
      · have := hx a e'
        omega

theorem cntB_count {T : Int → Int} {L : List Int} (hR : Rising T L) (h0 : ∀ s, I64 s → s < 0 → T s = 0) : ∀ {i : Nat}, i ≤ 4096 → cntB T i = L.countP (fun x => decide (x < (i : Int)))
  | 0, _ => by
    rw [cntB, eq_comm, List.countP_eq_zero]
    intro y hy
    have h1 := (hR.mem y).1 hy
    simp only [decide_eq_true_eq]
    intro h
    have := h0 y h1.1 (by omega)
    omega
  | i + 1, hi => by
    have hI : I64 (i : Int) := by constructor <;> omega
    have e : ((i + 1 : Nat) : Int) = (i : Int) + 1 := by omega
    rw [cntB, cntB_count hR h0 (i := i) (by omega), e, countP_step _ hR.sorted]
    congr 1
    by_cases h : 0 < T i
    · rw [if_pos h, if_pos ((hR.mem _).2 ⟨hI, h⟩)]
    · rw [if_neg h, if_neg (fun hm => h ((hR.mem _).1 hm).2)]

/-- The place of a sector among those that were written. -/
theorem rising_at {T : Int → Int} {L : List Int} (hR : Rising T L) (h0 : ∀ s, I64 s → s < 0 → T s = 0) {a : Nat} (ha : a ≤ 4096) (hT : 0 < T a) : L[cntB T a]? = some (a : Int) := by
  rw [cntB_count hR h0 ha]
  exact countP_at _ hR.sorted ((hR.mem _).2 ⟨by constructor <;> omega, hT⟩)

theorem amongZ_small {k m : Int} (h0 : 0 ≤ k) (h1 : k < m) (h2 : m ≤ 1000000) : amongZ k m = k := by
  have hw : IntKind.u64.wrap k = k := by
    unfold IntKind.wrap
    have hs : IntKind.u64.signed = false := rfl
    rw [hs]
    show k % 18446744073709551616 = k
    omega
  unfold amongZ
  rw [hw, Int.tmod_eq_of_lt h0 h1]
  exact IntWalk.wrap64_in _ ⟨by omega, by omega⟩

/-! ### values -/
/-- A row of n sectors' bytes. -/
structure VR (base : Nat) (pb bv bt : Nat) (w : World) (v : Value) (n : Nat) (G : Nat → List UInt8) : Prop where
  row : ∃ xs, w.ownsRow base 22 1 v n xs ∧ ∀ j, j < n → ∃ g c, xs[j]? = some (.slice (some ⟨g, 0, none⟩) 256 c) ∧ Has w g (G j) ∧ (G j).length = 256 ∧ g ≠ pb ∧ g ≠ bv ∧ g ≠ bt
  pos : 1 ≤ n
  low : pb < base ∧ bv < base ∧ bt < base

section
variable {base pb bv bt n : Nat} {w : World} {v : Value} {G : Nat → List UInt8}

theorem VR.kept (h : VR base pb bv bt w v n G) {S : Nat → Prop} {w' : World} (hF : Fr S w w') (hS : ∀ i, i < w.heap.size → S i → i = pb ∨ i = bv ∨ i = bt) : VR base pb bv bt w' v n G := by
  obtain ⟨xs, ho, hx⟩ := h.row
  have hlow := h.low
  refine ⟨⟨xs, ⟨ho.1, ?_⟩, fun j hj => ?_⟩, h.pos, hlow⟩
  · rcases ho.2 with hn | ⟨g, cap, cur, rfl, hb, hgg, rest⟩
    · exact .inl hn
    · have hlt := (Array.getElem?_eq_some_iff.1 hgg).1
      exact .inr ⟨g, cap, cur, rfl, hb, (hF.block g hlt (fun e => by have := hS g hlt e; omega)).trans hgg, rest⟩
  · obtain ⟨g, c, h1, h2, h3, h4, h5, h6⟩ := hx j hj
    exact ⟨g, c, h1, ⟨Nat.lt_of_lt_of_le h2.1 hF.size, h2.2.kept hF h2.1 (fun e => by rcases hS g h2.1 e with e | e | e; exact h4 e; exact h5 e; exact h6 e)⟩, h3, h4, h5, h6⟩

theorem VR.calm (h : VR base pb bv bt w v n G) {w' : World} (hF : Fr (fun _ => False) w w') : VR base pb bv bt w' v n G := h.kept hF (fun _ _ e => e.elim)

theorem VR.congr (h : VR base pb bv bt w v n G) {G' : Nat → List UInt8} (hG : ∀ j, j < n → G j = G' j) : VR base pb bv bt w v n G' := by
  obtain ⟨xs, ho, hx⟩ := h.row
  refine ⟨⟨xs, ho, fun j hj => ?_⟩, h.pos, h.low⟩
  rw [← hG j hj]
  exact hx j hj

/-- The row's head, and what lies at a place of it. -/
theorem VR.load (h : VR base pb bv bt w v n G) : ∃ g0 cap, v = .slice (some ⟨g0, 0, none⟩) n cap ∧ n ≤ cap ∧ ∀ j, j < n → ∃ g c, w.cell? ⟨g0, j, none⟩ = some (.slice (some ⟨g, 0, none⟩) 256 c) ∧ Has w g (G j) ∧ (G j).length = 256 := by
  obtain ⟨xs, ho, hx⟩ := h.row
  have hp := h.pos
  rcases id ho.2 with ⟨_, h0⟩ | ⟨g0, cap, cur, rfl, hb, hgg, hnc, _⟩
  · omega
  · refine ⟨g0, cap, rfl, hnc, fun j hj => ?_⟩
    obtain ⟨g, c, h1, h2, h3, _⟩ := hx j hj
    have hc := ho.cells (g := g0) rfl j _ h1
    rw [add_plain, Nat.zero_add] at hc
    exact ⟨g, c, hc, h2, h3⟩

/-- The row of one. -/
theorem VR.first {g c : Nat} {l : List UInt8} (hb : base ≤ w.heap.size) (hlow : pb < base ∧ bv < base ∧ bt < base) (hh : Has w g l) (hl : l.length = 256) (hg : g ≠ pb ∧ g ≠ bv ∧ g ≠ bt) : VR base pb bv bt (w.alloc (.cells #[.slice (some ⟨g, 0, none⟩) 256 c] 22)) (.slice (some ⟨w.heap.size, 0, none⟩) 1 1) 1 (fun _ => l) := by
  refine ⟨⟨[.slice (some ⟨g, 0, none⟩) 256 c], ⟨rfl, .inr ⟨w.heap.size, 1, #[.slice (some ⟨g, 0, none⟩) 256 c], rfl, hb, heap_alloc_new w _, by omega, by unfold maxLen; omega, rfl, rfl⟩⟩, fun j hj => ?_⟩, by omega, hlow⟩
  obtain rfl : j = 0 := by omega
  exact ⟨g, c, rfl, hh.calm ((Fr.refl _ w).alloc _), hl, hg⟩

/-- One more: what the law of append leaves. -/
theorem VR.more (h : VR base pb bv bt w v n G) {xs : List Value} (ho : w.ownsRow base 22 1 v n xs) (hx : ∀ j, j < n → ∃ g c, xs[j]? = some (.slice (some ⟨g, 0, none⟩) 256 c) ∧ Has w g (G j) ∧ (G j).length = 256 ∧ g ≠ pb ∧ g ≠ bv ∧ g ≠ bt)
    {g c : Nat} {l : List UInt8} (hh : Has w g l) (hl : l.length = 256) (hg : g ≠ pb ∧ g ≠ bv ∧ g ≠ bt) {v' : Value} {w' : World} (ho' : w'.ownsRow base 22 1 v' (n + 1) (xs ++ [.slice (some ⟨g, 0, none⟩) 256 c])) (hgr : w.grownBy w' v.ownBlock)
    {G' : Nat → List UInt8} (h1 : ∀ j, j < n → G' j = G j) (h2 : G' n = l) : VR base pb bv bt w' v' (n + 1) G' := by
  have hp := h.pos
  obtain ⟨g0, _, hv, _, hld⟩ := h.load
  have hxl : xs.length = n := by have := ho.1; omega
  have keep : ∀ g l, l.length = 256 → Has w g l → Has w' g l := fun g l hl hh => by
    have hne : g ≠ g0 := by
      rintro rfl
      obtain ⟨g1, c1, hc, _⟩ := hld 0 (by omega)
      obtain ⟨b, hb⟩ : ∃ b, l[0]? = some b := ⟨_, List.getElem?_eq_getElem (by omega)⟩
      have := hh.2 0 b hb
      rw [Nat.zero_add, hc] at this
      cases this
    refine ⟨Nat.lt_of_lt_of_le hh.1 hgr.size, fun j b hj => ?_⟩
    exact (World.cell?_of_block (w := w) (w' := w') (a := ⟨g, 0 + j, none⟩) (hgr.block g hh.1 (by rw [hv]; simpa [Value.ownBlock] using hne))).trans (hh.2 j b hj)
  refine ⟨⟨_, ho', fun j hj => ?_⟩, by omega, h.low⟩
  by_cases hjn : j < n
  · obtain ⟨g', c', a1, a2, a3, a4⟩ := hx j hjn
    rw [h1 j hjn]
    exact ⟨g', c', by rw [List.getElem?_append_left (by omega)]; exact a1, keep _ _ a3 a2, a3, a4⟩
  · obtain rfl : j = n := by omega
    rw [h2]
    exact ⟨g, c, by rw [List.getElem?_append_right (by omega), hxl, Nat.sub_self]; rfl, keep _ _ hl hh, hl, hg⟩

end

end Go.Proofs.Ytbmbibepcnpngaa
