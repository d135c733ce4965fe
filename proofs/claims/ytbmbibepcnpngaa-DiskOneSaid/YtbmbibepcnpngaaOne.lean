/-
  DiskOne's ways, ahead of its walk.
-/
import Derived.Test.YtbmbibepcnpngaaVals
namespace Go.Proofs.Ytbmbibepcnpngaa.diskOne
open Go.RowKit Go.Maps Go.ChangeShapes Go.WideShapes Go.Deep

/-- A sector is among those that were written. -/
def wri (W : List Int) (s : Int) : Int := if s ∈ W then 1 else 0
theorem wri_pos {W : List Int} {s : Int} : 0 < wri W s ↔ s ∈ W := by
  unfold wri
  split <;> simp_all

/-- Behind k writes: the disk, and the values of sector a in a row. -/
structure O1 (w0 : World) (pb base N a : Nat) (W : List Int) (k n : Nat) (v : Value) (w : World) : Prop where
  ex : ∃ bv bt c ops V T, Good w pb bv bt N (2000 + 2 * k) c ops (-1) false V T ∧ T a + 1 = n ∧ (∀ s, I64 s → (0 < T s ↔ s ∈ W.take k)) ∧ VR base pb bv bt w v n (fun j => V a j) ∧ (w0.heap.size ≤ pb ∧ w0.heap.size ≤ bv ∧ w0.heap.size ≤ bt)
  fr : Fr (fun _ => False) w0 w

/-- .. ahead of the append. -/
structure O1m (w0 : World) (pb base N a : Nat) (W : List Int) (k n : Nat) (x : UInt8) (v : Value) (w : World) : Prop where
  ex : ∃ bv bt c ops V T, Good w pb bv bt N (2000 + 2 * k) c ops (-1) false V T ∧ T a = n ∧ V a n = one x ∧ (∀ s, I64 s → (0 < T s ↔ s ∈ W.take k)) ∧ VR base pb bv bt w v n (fun j => V a j) ∧ (w0.heap.size ≤ pb ∧ w0.heap.size ≤ bv ∧ w0.heap.size ≤ bt)
  fr : Fr (fun _ => False) w0 w

section
variable {w0 w : World} {pb base N a k n : Nat} {W : List Int} {v : Value} {x : UInt8}

theorem O1.calm (h : O1 w0 pb base N a W k n v w) {w' : World} (hF : Fr (fun _ => False) w w') : O1 w0 pb base N a W k n v w' := by
  obtain ⟨bv, bt, c, ops, V, T, h1, h2, h3, h4, h5⟩ := h.ex
  exact ⟨⟨bv, bt, c, ops, V, T, h1.calm hF, h2, h3, h4.calm hF, h5⟩, h.fr.trans hF (fun _ _ e => e)⟩

theorem O1.cell0 (h : O1 w0 pb base N a W k n v w) : w.cell? ⟨pb, 0, none⟩ = some (.int .i64 N) := by
  obtain ⟨bv, bt, c, ops, V, T, hg, _⟩ := h.ex
  obtain ⟨nv, nt, hd, _, _⟩ := hg.disk
  exact hd.blk.c0

theorem take_step {W : List Int} {k : Nat} {s : Int} (h : W[k]? = some s) (t : Int) : t ∈ W.take (k + 1) ↔ (t ∈ W.take k ∨ t = s) := by
  rw [List.take_add_one, h]
  simp

theorem turns_step {T : Int → Int} {W : List Int} {k : Nat} {s : Int} (hs : W[k]? = some s) (h0 : 0 ≤ T s) (h : ∀ t, I64 t → (0 < T t ↔ t ∈ W.take k)) : ∀ t, I64 t → (0 < updT T s (T s + 1) t ↔ t ∈ W.take (k + 1)) := by
  intro t ht
  rw [take_step hs]
  by_cases e : t = s
  · subst e
    rw [updT_at]
    exact ⟨fun _ => Or.inr rfl, fun _ => by omega⟩
  · rw [updT_ne _ e, h t ht]
    exact ⟨Or.inl, fun h => h.resolve_right e⟩

theorem O1.write (h : O1 w0 pb base N a W k n v w) (hk : k < 60) {s : Int} (hs : W[k]? = some s) (h0 : 0 ≤ s) (h1 : s < N) (ha : s ≠ a) {w1 : World} {g kk : Nat} (hg1 : w.heap.size ≤ g) (hg2 : g < w1.heap.size) (hr : Reads w1 g 0 (one x)) (hF : Fr (fun _ => False) w w1) :
    Calls Try.prog 16 #[.pointer (some ⟨pb, 0, none⟩), .int .i64 s, .slice (some ⟨g, 0, none⟩) 256 kk] w1 fun e w' => e = .returned (.int .i64 0) ∧ O1 w0 pb base N a W (k + 1) n v w' := by
  obtain ⟨bv, bt, c, ops, V, T, hg, h2, h3, h4, h5⟩ := h.ex
  have hl := hg.lt
  have hn1 := hg.n1
  have hi : I64 s := by constructor <;> omega
  refine (write_free (hg.calm hF) (by omega) s h0 h1 g 0 kk (one x) (one_length x) hg2 hr (by omega) (by omega) (by omega)).mono ?_
  rintro e w' ⟨rfl, hg', hF'⟩
  refine ⟨rfl, ⟨bv, bt, _, _, _, _, hg', by rw [updT_ne _ (Ne.symm ha)]; exact h2, turns_step hs (hg.turns s hi).1 h3, ?_, h5⟩, (h.fr.trans hF (fun _ _ e => e)).go hF' (fun i e => by omega)⟩
  exact ((h4.calm hF).kept hF' (fun i _ e => e)).congr (fun j hj => (upd_ne _ _ (fun e => ha e.1.symm)).symm)

theorem O1.writeA (h : O1 w0 pb base N a W k n v w) (hk : k < 60) (hs : W[k]? = some (a : Int)) (h1 : a < N) {w1 : World} {g kk : Nat} (hg1 : w.heap.size ≤ g) (hg2 : g < w1.heap.size) (hr : Reads w1 g 0 (one x)) (hF : Fr (fun _ => False) w w1) :
    Calls Try.prog 16 #[.pointer (some ⟨pb, 0, none⟩), .int .i64 a, .slice (some ⟨g, 0, none⟩) 256 kk] w1 fun e w' => e = .returned (.int .i64 0) ∧ O1m w0 pb base N a W (k + 1) n x v w' := by
  obtain ⟨bv, bt, c, ops, V, T, hg, h2, h3, h4, h5⟩ := h.ex
  have hl := hg.lt
  have hn1 := hg.n1
  have hi : I64 (a : Int) := by constructor <;> omega
  refine (write_free (hg.calm hF) (by omega) a (by omega) (by omega) g 0 kk (one x) (one_length x) hg2 hr (by omega) (by omega) (by omega)).mono ?_
  rintro e w' ⟨rfl, hg', hF'⟩
  refine ⟨rfl, ⟨bv, bt, _, _, _, _, hg', by rw [updT_at]; exact h2, by rw [← h2]; exact upd_at _ _ _ _, turns_step hs (hg.turns a hi).1 h3, ?_, h5⟩, (h.fr.trans hF (fun _ _ e => e)).go hF' (fun i e => by omega)⟩
  exact ((h4.calm hF).kept hF' (fun i _ e => e)).congr (fun j hj => (upd_ne _ _ (fun e => by have := e.2; omega)).symm)

theorem O1m.calm (h : O1m w0 pb base N a W k n x v w) {w' : World} (hF : Fr (fun _ => False) w w') : O1m w0 pb base N a W k n x v w' := by
  obtain ⟨bv, bt, c, ops, V, T, h1, h2, h2', h3, h4, h5⟩ := h.ex
  exact ⟨⟨bv, bt, c, ops, V, T, h1.calm hF, h2, h2', h3, h4.calm hF, h5⟩, h.fr.trans hF (fun _ _ e => e)⟩

/-- What the law of append asks and leaves. -/
theorem O1m.more (h : O1m w0 pb base N a W k n x v w) (hb : w0.heap.size ≤ base) {g c : Nat} (hh : Has w g (one x)) (hg : base ≤ g) :
    ∃ xs, (w.alloc (.cells #[.slice (some ⟨g, 0, none⟩) 256 c] 22)).ownsRow base 22 1 v n xs ∧ ∀ v' w', w'.ownsRow base 22 1 v' (n + 1) (xs ++ [.slice (some ⟨g, 0, none⟩) 256 c]) → (w.alloc (.cells #[.slice (some ⟨g, 0, none⟩) 256 c] 22)).grownBy w' v.ownBlock → O1 w0 pb base N a W k (n + 1) v' w' := by
  have hF := (Fr.refl (fun _ => False) w).alloc (.cells #[.slice (some ⟨g, 0, none⟩) 256 c] 22)
  obtain ⟨bv, bt, cc, ops, V, T, h1, h2, h2', h3, h4, h5⟩ := (h.calm hF).ex
  have hlow := h4.low
  obtain ⟨xs, ho, hx⟩ := id h4.row
  refine ⟨xs, ho, fun v' w' ho' hgr => ?_⟩
  have hown := ho.lt
  have hFg : Fr (fun i => v.ownBlock = some i) (w.alloc (.cells #[.slice (some ⟨g, 0, none⟩) 256 c] 22)) w' := (Fr.refl _ _).grown hgr (fun i e => Or.inl e)
  have hne : ∀ i, i < base → ¬ v.ownBlock = some i := fun i hi e => by
    have := (hown i e).1
    omega
  refine ⟨⟨bv, bt, cc, ops, V, T, h1.kept hFg (hne _ hlow.1) (hne _ hlow.2.1) (hne _ hlow.2.2), by omega, h3, h4.more ho hx (hh.calm hF) (one_length x) (by omega) ho' hgr (fun _ _ => rfl) h2', h5⟩, (h.fr.trans hF (fun _ _ e => e)).go hFg (fun i e => Nat.le_trans hb (hown i e).1)⟩
end

end Go.Proofs.Ytbmbibepcnpngaa.diskOne
