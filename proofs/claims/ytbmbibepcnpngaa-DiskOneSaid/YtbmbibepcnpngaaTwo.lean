/-
  DiskOne's ways behind its first loop.
-/
import Derived.Test.YtbmbibepcnpngaaOne
namespace Go.Proofs.Ytbmbibepcnpngaa.diskOne
open Go.RowKit Go.Maps Go.ChangeShapes Go.WideShapes Go.Deep

/-- The disk and its clone; the values of sector a in a row. -/
def O2 (w0 : World) (pb qb base N a : Nat) (W : List Int) (n : Nat) (v : Value) (G : Nat → List UInt8) (w : World) : Prop :=
  ∃ pv pt qv qt B c ops V T, Good w pb pv pt N B c ops (-1) false V T ∧ Good w qb qv qt N B c ops (-1) false V T ∧ B ≤ 5000 ∧ T a + 1 = n ∧ (∀ s, I64 s → (0 < T s ↔ s ∈ W)) ∧ VR base pb pv pt w v n G ∧ (∀ j : Nat, j < n → V a j = G j) ∧
    (w0.heap.size ≤ pb ∧ w0.heap.size ≤ pv ∧ w0.heap.size ≤ pt) ∧ Fr (fun _ => False) w0 w

/-- One more clone, its numbers as the disk's in wr. -/
def O3 (wr : World) (xb N a : Nat) (W : List Int) (n : Nat) (G : Nat → List UInt8) (w : World) : Prop :=
  ∃ xv xt B c ops V T, Good w xb xv xt N B c ops (-1) false V T ∧ B ≤ 5000 ∧ T a + 1 = n ∧ (∀ s, I64 s → (0 < T s ↔ s ∈ W)) ∧ (∀ j : Nat, j < n → V a j = G j) ∧ (wr.heap.size ≤ xb ∧ wr.heap.size ≤ xv ∧ wr.heap.size ≤ xt) ∧ Fr (fun _ => False) wr w

/-- .. crashed. -/
def O5 (wr : World) (xb N a : Nat) (l : List UInt8) (w : World) : Prop :=
  ∃ xv xt B c ops V T, Good w xb xv xt N B c ops (-1) false V T ∧ T a = 0 ∧ V a 0 = l ∧ Fr (fun _ => False) wr w

/-- The disk itself, crashed. -/
def O6 (w0 : World) (pb N a n : Nat) (v : Value) (G I : Nat → List UInt8) (w : World) : Prop :=
  ∃ pv pt B ops V base pt', Good w pb pv pt N B 0 ops (-1) false V (fun _ => 0) ∧ (∃ j, j < n ∧ I a = G j) ∧ (∀ k : Nat, V k 0 = I k) ∧ VR base pb pv pt' w v n G ∧ Fr (fun _ => False) w0 w

section
variable {w0 w wr : World} {pb qb xb base N a n k : Nat} {W : List Int} {v : Value} {G I : Nat → List UInt8} {l : List UInt8}

theorem O2.calm (h : O2 w0 pb qb base N a W n v G w) {w' : World} (hF : Fr (fun _ => False) w w') : O2 w0 pb qb base N a W n v G w' := by
  obtain ⟨pv, pt, qv, qt, B, c, ops, V, T, h1, h2, h3, h4, h5, h6, h7, h8, h9⟩ := h
  exact ⟨pv, pt, qv, qt, B, c, ops, V, T, h1.calm hF, h2.calm hF, h3, h4, h5, h6.calm hF, h7, h8, h9.trans hF (fun _ _ e => e)⟩

theorem O2.fr (h : O2 w0 pb qb base N a W n v G w) : Fr (fun _ => False) w0 w := by
  obtain ⟨pv, pt, qv, qt, B, c, ops, V, T, h1, h2, h3, h4, h5, h6, h7, h8, h9⟩ := h
  exact h9

theorem O2.cell0 (h : O2 w0 pb qb base N a W n v G w) : w.cell? ⟨pb, 0, none⟩ = some (.int .i64 N) := by
  obtain ⟨pv, pt, qv, qt, B, c, ops, V, T, hg, _⟩ := h
  obtain ⟨nv, nt, hd, _, _⟩ := hg.disk
  exact hd.blk.c0

theorem O2.row (h : O2 w0 pb qb base N a W n v G w) : ∃ g0 cap, v = .slice (some ⟨g0, 0, none⟩) n cap ∧ n ≤ cap ∧ ∀ w', Fr (fun _ => False) w w' → ∀ j, j < n → ∃ g c, w'.cell? ⟨g0, j, none⟩ = some (.slice (some ⟨g, 0, none⟩) 256 c) ∧ Has w' g (G j) ∧ (G j).length = 256 := by
  obtain ⟨pv, pt, qv, qt, B, c, ops, V, T, h1, h2, h3, h4, h5, h6, _⟩ := h
  obtain ⟨g0, cap, hv, hn, _⟩ := id h6.load
  refine ⟨g0, cap, hv, hn, fun w' hF j hj => ?_⟩
  obtain ⟨g0', cap', hv', _, hl⟩ := (h6.calm hF).load
  rw [hv] at hv'
  simp only [Value.slice.injEq, Option.some.injEq, Addr.mk.injEq, and_true, true_and] at hv'
  rw [hv'.1]
  exact hl j hj

/-- The clone behind the first loop. -/
theorem O1.clone (h : O1 w0 pb base N a W k n v w) (hk : k ≤ 60) : Calls Try.prog 28 #[.pointer (some ⟨pb, 0, none⟩)] w fun e w' => ∃ qb G, e = .returned (.pointer (some ⟨qb, 0, none⟩)) ∧ O2 w0 pb qb base N a (W.take k) n v G w' := by
  obtain ⟨bv, bt, c, ops, V, T, h1, h2, h3, h4, h5⟩ := h.ex
  refine (clone_good h1).mono ?_
  rintro e w' ⟨qb, qv, qt, rfl, hq, _, _, _, hF⟩
  exact ⟨qb, _, rfl, bv, bt, qv, qt, _, c, ops, V, T, h1.calm hF, hq, by omega, h2, h3, h4.calm hF, fun _ _ => rfl, h5, h.fr.trans hF (fun _ _ e => e)⟩

theorem O2.clone (h : O2 w0 pb qb base N a W n v G w) : Calls Try.prog 28 #[.pointer (some ⟨qb, 0, none⟩)] w fun e w' => ∃ xb, e = .returned (.pointer (some ⟨xb, 0, none⟩)) ∧ O3 w xb N a W n G w' := by
  obtain ⟨pv, pt, qv, qt, B, c, ops, V, T, h1, h2, h3, h4, h5, h6, h7, h8, h9⟩ := h
  refine (clone_good h2).mono ?_
  rintro e w' ⟨xb, xv, xt, rfl, hq, a1, a2, a3, hF⟩
  exact ⟨xb, rfl, xv, xt, B, c, ops, V, T, hq, h3, h4, h5, h7, ⟨a1, a2, a3⟩, hF⟩

theorem O3.calm (h : O3 wr xb N a W n G w) {w' : World} (hF : Fr (fun _ => False) w w') : O3 wr xb N a W n G w' := by
  obtain ⟨xv, xt, B, c, ops, V, T, h1, h2, h3, h4, h5, h6, h7⟩ := h
  exact ⟨xv, xt, B, c, ops, V, T, h1.calm hF, h2, h3, h4, h5, h6, h7.trans hF (fun _ _ e => e)⟩

/-- The choice: noughts, and k at its end. -/
def choice (place k : Nat) : List Int := List.replicate place 0 ++ [(k : Int)]

theorem choice_at (place k : Nat) : (choice place k)[place]? = some (k : Int) := by
  unfold choice
  rw [List.getElem?_append_right (by simp)]
  simp

theorem choice_length (place k : Nat) : (choice place k).length = place + 1 := by simp [choice]

/-- A row of numbers that was made, and one of them set. -/
theorem choice_cells {w : World} {g place k : Nat} {cur : Array Value} (hg : w.heap[g]? = some (.cells cur 3 (0, 0))) (hc : cur.toList = List.replicate (place + 1) (.int .i64 0)) :
    (w.cell? ⟨g, place, none⟩ = some (.int .i64 0) ∧ w.frozen? ⟨g, place, none⟩ = false) ∧ ∀ j x, (choice place k)[j]? = some x → (w.setCell ⟨g, place, none⟩ (.int .i64 k)).cell? ⟨g, j, none⟩ = some (.int .i64 x) := by
  have hat : ∀ j, j < place + 1 → w.cell? ⟨g, j, none⟩ = some (.int .i64 0) := fun j hj => by
    rw [cellAt hg, ← Array.getElem?_toList, hc, List.getElem?_replicate, if_pos hj]
  refine ⟨⟨hat place (by omega), freeAt hg place⟩, fun j x hj => ?_⟩
  have hjl : j < place + 1 := by
    have := (List.getElem?_eq_some_iff.1 hj).1
    rw [choice_length] at this
    exact this
  by_cases e : j = place
  · subst e
    rw [choice_at] at hj
    cases hj
    rw [cellAt (heap_setCell_same _ _ _ _ _ _ hg)]
    have hs : j < cur.size := by rw [← Array.length_toList, hc]; simp
    simp [hs]
  · have h0 : x = 0 := by
      unfold choice at hj
      rw [List.getElem?_append_left (by simp; omega), List.getElem?_replicate, if_pos (by omega)] at hj
      exact (Option.some.inj hj).symm
    rw [World.cell?_setCell_other _ _ _ _ (by intro h; simp only [Addr.mk.injEq] at h; omega), hat j hjl, h0]

theorem O3.crash (h : O3 wr xb N a W n G w) (hN : a < N) (hN1 : N ≤ 1000) (hk : k < n) {w1 : World} {g place : Nat} (hF : Fr (fun i => i = g) w w1) (hg : w.heap.size ≤ g) (hg1 : g < w1.heap.size) (hp : place = cntB (wri W) a)
    (hc : ∀ j x, (choice place k)[j]? = some x → w1.cell? ⟨g, j, none⟩ = some (.int .i64 x)) :
    Calls Try.prog 25 #[.pointer (some ⟨xb, 0, none⟩), .slice (some ⟨g, 0, none⟩) (place + 1) (place + 1)] w1 fun e w' => e = .returned (.int .i64 0) ∧ O5 wr xb N a (G k) w' := by
  obtain ⟨xv, xt, B, c, ops, V, T, h1, h2, h3, h4, h5, h6, h7⟩ := h
  have hl := h1.lt
  have hpl := cntB_le (wri W) a
  have hsz := h7.size
  have h1' := h1.kept hF (by omega) (by omega) (by omega)
  have hP : Picks w1 xv (.slice (some ⟨g, 0, none⟩) (place + 1) (place + 1)) (choice place k) := by
    refine ⟨_, place + 1, by rw [choice_length], by rw [choice_length]; omega, fun _ => ⟨g, 0, rfl, hg1, by omega, fun j x hj => by rw [Nat.zero_add]; exact hc j x hj⟩⟩
  refine (crash_good h1' _ _ hP).mono ?_
  rintro e w' ⟨rfl, bt', V', L, hg', hR, _, hV1, hV2, hlt, hF'⟩
  have hai : I64 (a : Int) := by constructor <;> omega
  refine ⟨rfl, xv, bt', _, _, _, V', _, hg', rfl, ?_, (h7.trans (hF.mono (S := fun i => i = g) (fun _ _ e => e)) (fun i hi e => by omega)).go hF' (fun i e => by omega)⟩
  have hT := h1.turns a hai
  by_cases h0 : 0 < T a
  · have hL := rising_at hR (fun s hs hn => h1.out s hs (Or.inl hn)) (a := a) (by omega) h0
    have hcn : cntB T a = place := by
      rw [hp]
      exact cntB_congr (fun i hi => by rw [h4 i (by constructor <;> omega)]; exact wri_pos.symm)
    rw [hcn] at hL
    rw [hV1 _ _ hL]
    have : pickOf (choice place k) place (T a + 1) = k := by
      unfold pickOf
      rw [choice_at]
      exact amongZ_small (by omega) (by omega) (by omega)
    rw [this]
    exact h5 k hk
  · have hnm : (a : Int) ∉ L := fun hm => h0 ((hR.mem _).1 hm).2
    rw [hV2 _ hnm]
    have hk0 : k = 0 := by omega
    subst hk0
    exact h5 0 hk

theorem O5.read (h : O5 wr xb N a l w) (hN : a < N) : Calls Try.prog 20 #[.pointer (some ⟨xb, 0, none⟩), .int .i64 a] w fun e w' => ∃ g cap, e = .returned (.tuple #[.slice (some ⟨g, 0, none⟩) 256 cap, .int .i64 0]) ∧ Has w' g l ∧ Fr (fun _ => False) wr w' := by
  obtain ⟨xv, xt, B, c, ops, V, T, h1, h2, h3, h4⟩ := h
  refine (read_new h1 a (by omega) (by omega)).mono ?_
  rintro e w' ⟨g, cap, rfl, a1, a2, a3, hF⟩
  rw [h2, h3] at a3
  exact ⟨g, cap, rfl, ⟨a2, a3⟩, h4.trans hF (fun _ _ e => e)⟩

theorem O2.crash (h : O2 w0 pb qb base N a W n v G w) (hN : a < N) (hN1 : N ≤ 1000) {pv' : Value} {L : List Int} (hp : IntsV w0 pv' L) : Calls Try.prog 25 #[.pointer (some ⟨pb, 0, none⟩), pv'] w fun e w' => e = .returned (.int .i64 0) ∧ ∃ I, O6 w0 pb N a n v G I w' := by
  obtain ⟨pv, pt, qv, qt, B, c, ops, V, T, h1, h2, h3, h4, h5, h6, h7, h8, h9⟩ := h
  refine (crash_good h1 _ L (hp.picks h9 h8.2.1)).mono ?_
  rintro e w' ⟨rfl, bt', V', L', hg', hR, _, hV1, hV2, hlt, hF'⟩
  have hai : I64 (a : Int) := by constructor <;> omega
  have hT := h1.turns a hai
  have hpos := h6.pos
  refine ⟨rfl, fun k => V' k 0, pv, bt', _, _, V', base, pt, hg', ?_, fun _ => rfl, h6.kept hF' (fun i _ e => by rcases e with e | e; exact Or.inl e; exact Or.inr (Or.inl e)), h9.go hF' (fun i e => by omega)⟩
  by_cases hm : (a : Int) ∈ L'
  · obtain ⟨i, hi⟩ := List.getElem?_of_mem hm
    have hb := pickOf_in L i (m := T a + 1) (by omega) (by omega)
    obtain ⟨j, hj⟩ : ∃ j : Nat, (j : Int) = pickOf L i (T a + 1) := ⟨(pickOf L i (T a + 1)).toNat, by omega⟩
    refine ⟨j, by omega, ?_⟩
    show V' a 0 = G j
    rw [hV1 i a hi, ← hj]
    exact h7 j (by omega)
  · refine ⟨0, by omega, ?_⟩
    show V' a 0 = G 0
    rw [hV2 _ hm]
    exact h7 0 (by omega)

theorem O6.calm (h : O6 w0 pb N a n v G I w) {w' : World} (hF : Fr (fun _ => False) w w') : O6 w0 pb N a n v G I w' := by
  obtain ⟨pv, pt, B, ops, V, base, pt', h1, h2, h3, h4, h5⟩ := h
  exact ⟨pv, pt, B, ops, V, base, pt', h1.calm hF, h2, h3, h4.calm hF, h5.trans hF (fun _ _ e => e)⟩

theorem O6.fr (h : O6 w0 pb N a n v G I w) : Fr (fun _ => False) w0 w := by
  obtain ⟨pv, pt, B, ops, V, base, pt', h1, h2, h3, h4, h5⟩ := h
  exact h5

theorem O6.row (h : O6 w0 pb N a n v G I w) : ∃ g0 cap, v = .slice (some ⟨g0, 0, none⟩) n cap ∧ n ≤ cap ∧ ∀ w', Fr (fun _ => False) w w' → ∀ j, j < n → ∃ g c, w'.cell? ⟨g0, j, none⟩ = some (.slice (some ⟨g, 0, none⟩) 256 c) ∧ Has w' g (G j) ∧ (G j).length = 256 := by
  obtain ⟨pv, pt, B, ops, V, base, pt', h1, h2, h3, h6, h5⟩ := h
  obtain ⟨g0, cap, hv, hn, _⟩ := id h6.load
  refine ⟨g0, cap, hv, hn, fun w' hF j hj => ?_⟩
  obtain ⟨g0', cap', hv', _, hl⟩ := (h6.calm hF).load
  rw [hv] at hv'
  simp only [Value.slice.injEq, Option.some.injEq, Addr.mk.injEq, and_true, true_and] at hv'
  rw [hv'.1]
  exact hl j hj

theorem O6.one (h : O6 w0 pb N a n v G I w) : ∃ j, j < n ∧ I a = G j := by
  obtain ⟨pv, pt, B, ops, V, base, pt', h1, h2, _⟩ := h
  exact h2

theorem O6.read (h : O6 w0 pb N a n v G I w) (hN : a < N) : Calls Try.prog 20 #[.pointer (some ⟨pb, 0, none⟩), .int .i64 a] w fun e w' => ∃ g cap, e = .returned (.tuple #[.slice (some ⟨g, 0, none⟩) 256 cap, .int .i64 0]) ∧ Has w' g (I a) ∧ O6 w0 pb N a n v G I w' := by
  obtain ⟨pv, pt, B, ops, V, base, pt', h1, h2, h3, h4, h5⟩ := id h
  refine (read_new h1 a (by omega) (by omega)).mono ?_
  rintro e w' ⟨g, cap, rfl, a1, a2, a3, hF⟩
  rw [h3] at a3
  exact ⟨g, cap, rfl, ⟨a2, a3⟩, h.calm hF⟩

theorem O6.pending (h : O6 w0 pb N a n v G I w) : Calls Try.prog 29 #[.pointer (some ⟨pb, 0, none⟩)] w fun e w' => e = .returned (.int .i64 0) ∧ w = w' := by
  obtain ⟨pv, pt, B, ops, V, base, pt', h1, _⟩ := h
  exact pending_good h1

theorem O6.image (h : O6 w0 pb N a n v G I w) : Calls Try.prog 33 #[.pointer (some ⟨pb, 0, none⟩)] w fun e w' => diskSynced.NewImg w N I e w' ∧ O6 w0 pb N a n v G I w' := by
  obtain ⟨pv, pt, B, ops, V, base, pt', h1, h2, h3, h4, h5⟩ := id h
  have hn1 := h1.n1
  refine (image_good h1).mono fun e w' hr => ?_
  have hi := diskSynced.img_of (fun k hk => h1.len (by constructor <;> omega) I64.zero) (fun k _ => h3 k) hr
  obtain ⟨_, _, _, _, _, hF⟩ := id hi
  exact ⟨hi, h.calm hF⟩

theorem O6.sure (h : O6 w0 pb N a n v G I w) : Calls Try.prog 35 #[.pointer (some ⟨pb, 0, none⟩)] w fun e w' => diskSynced.NewImg w N I e w' ∧ O6 w0 pb N a n v G I w' := by
  obtain ⟨pv, pt, B, ops, V, base, pt', h1, h2, h3, h4, h5⟩ := id h
  have hn1 := h1.n1
  refine (sure_good h1).mono fun e w' hr => ?_
  have hi := diskSynced.img_of (fun k hk => h1.len (by constructor <;> omega) I64.zero) (fun k _ => h3 k) hr
  obtain ⟨_, _, _, _, _, hF⟩ := id hi
  exact ⟨hi, h.calm hF⟩

/-- Two sectors' bytes are held against each other. -/
theorem same_two {g1 c1 g2 c2 : Nat} {l1 l2 : List UInt8} (h1 : Has w g1 l1) (h2 : Has w g2 l2) (e1 : l1.length = 256) (e2 : l2.length = 256) : Calls Try.prog 22 #[.slice (some ⟨g1, 0, none⟩) 256 c1, .slice (some ⟨g2, 0, none⟩) 256 c2] w fun e w' => e = .returned (.bool (decide (l1 = l2))) ∧ Fr (fun _ => False) w w' := by
  have h := same_any w g1 0 c1 g2 0 c2 l1 l2 h1.2 h2.2 (by omega) (by omega)
  rw [e1, e2] at h
  exact h.mono fun _ _ ⟨a, b⟩ => ⟨a, b.fr⟩

/-- Whether one of the first k values is l. -/
def fnd (G : Nat → List UInt8) (l : List UInt8) : Nat → Bool
  | 0 => false
  | k + 1 => fnd G l k || decide (l = G k)

theorem fnd_of {G : Nat → List UInt8} {l : List UInt8} {j : Nat} (h : l = G j) : ∀ {k}, j < k → fnd G l k = true
  | k + 1, hk => by
    rw [fnd]
    by_cases e : j = k
    · subst e
      rw [decide_eq_true h, Bool.or_true]
    · rw [fnd_of h (by omega), Bool.true_or]
end

end Go.Proofs.Ytbmbibepcnpngaa.diskOne
