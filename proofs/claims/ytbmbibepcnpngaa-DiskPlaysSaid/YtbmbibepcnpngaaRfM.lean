/-
  The document's disk in memory: a row of rows of sectors' bytes.
-/
import Derived.Test.YtbmbibepcnpngaaBy
namespace Go.Proofs.Ytbmbibepcnpngaa.rf
open Go.RowKit Go.Maps

/-- Block i is one of cells of that type, and may be written. -/
def Ty (w : World) (t : TypeId) (i : Nat) : Prop := ∃ cs, w.heap[i]? = some (.cells cs t (0, 0))
theorem Ty.ne {w : World} {t t' : TypeId} {i j : Nat} (h : Ty w t i) (h' : Ty w t' j) (ht : t ≠ t') : i ≠ j := by
  rintro rfl
  obtain ⟨cs, h⟩ := h
  obtain ⟨cs', h'⟩ := h'
  rw [h] at h'
  injection h' with h'
  injection h' with _ h2
  exact ht h2
theorem Ty.lt {w : World} {t : TypeId} {i : Nat} (h : Ty w t i) : i < w.heap.size := by
  obtain ⟨cs, h⟩ := h
  exact (Array.getElem?_eq_some_iff.1 h).1

section
variable {X : Nat → Prop}
/-- Block g holds a sector's bytes, and is none of the lent ones. -/
def Byt (X : Nat → Prop) (w : World) (g : Nat) (x : List UInt8) : Prop := ¬ X g ∧ ∃ cs, w.heap[g]? = some (.cells cs 5 (0, 0)) ∧ x.length = 256 ∧ ∀ (j : Nat) b, x[j]? = some b → cs[j]? = some (.int .u8 (b.toNat : Int))
theorem Byt.ty {w : World} {g : Nat} {x : List UInt8} (h : Byt X w g x) : Ty w 5 g := by
  obtain ⟨_, cs, h, _⟩ := h
  exact ⟨cs, h⟩
theorem Byt.kept {w w' : World} {g : Nat} {x : List UInt8} (h : Byt X w g x) {S : Nat → Prop} (hF : Fr S w w') (hS : ∀ i, S i → ¬ X i → ¬ Ty w 5 i) : Byt X w' g x := by
  have ht := h.ty
  obtain ⟨hX, cs, h1, h2⟩ := h
  exact ⟨hX, cs, (hF.block g ht.lt (fun e => hS g e hX ht)).trans h1, h2⟩
theorem Byt.to {Y : Nat → Prop} {w : World} {g : Nat} {x : List UInt8} (h : Byt X w g x) (hY : ∀ i, Ty w 5 i → ¬ X i → ¬ Y i) : Byt Y w g x := ⟨hY g h.ty h.1, h.2⟩
theorem Byt.rd {w : World} {g : Nat} {x : List UInt8} (h : Byt X w g x) : Rd w w.heap.size (some ⟨g, 0, none⟩) x := fun _ => by
  have ht := h.ty.lt
  obtain ⟨_, cs, h1, _, h2⟩ := h
  exact ⟨g, 0, rfl, ht, fun j b hj => by rw [cellAt h1, Nat.zero_add]; exact h2 j b hj⟩
theorem Byt.of_own {w : World} {base cap : Nat} {A : Option Addr} {x : List UInt8} (h : Own w base (.slice A x.length cap) x) (hl : x.length = 256) (hX : ∀ i, X i → i < base) : ∃ g, A = some ⟨g, 0, none⟩ ∧ base ≤ g ∧ Byt X w g x := by
  obtain ⟨_, h2⟩ := h
  rcases h2 with ⟨_, h0⟩ | ⟨g, cap', cur, hv, hg, hh, _, _, _, ht⟩
  · omega
  · cases hv
    refine ⟨g, rfl, hg, fun e => by have := hX g e; omega, cur, hh, hl, fun j b hj => ?_⟩
    rw [← Array.getElem?_toList]
    have h1 : (cur.toList.take (x.length * 1))[j]? = some (.int .u8 (b.toNat : Int)) := by rw [ht, bs_get, hj]; rfl
    rw [List.getElem?_take] at h1
    split at h1
    · exact h1
    · cases h1

/-- Block h holds a row of sectors' bytes. -/
def Vls (X : Nat → Prop) (w : World) (h : Nat) (l : List (List UInt8)) : Prop := ∃ cs, w.heap[h]? = some (.cells cs 22 (0, 0)) ∧ l ≠ [] ∧ ∀ (k : Nat) x, l[k]? = some x → ∃ g c, cs[k]? = some (.slice (some ⟨g, 0, none⟩) 256 c) ∧ Byt X w g x
theorem Vls.ty {w : World} {h : Nat} {l : List (List UInt8)} (H : Vls X w h l) : Ty w 22 h := by
  obtain ⟨cs, H, _⟩ := H
  exact ⟨cs, H⟩
theorem Vls.kept {w w' : World} {h : Nat} {l : List (List UInt8)} (H : Vls X w h l) {S : Nat → Prop} (hF : Fr S w w') (hS : ∀ i, S i → ¬ X i → ¬ Ty w 5 i) (hS2 : ∀ i, S i → ¬ Ty w 22 i) : Vls X w' h l := by
  have ht := H.ty
  obtain ⟨cs, h1, h2, h3⟩ := H
  refine ⟨cs, (hF.block h ht.lt (fun e => hS2 h e ht)).trans h1, h2, fun k x hk => ?_⟩
  obtain ⟨g, c, h4, h5⟩ := h3 k x hk
  exact ⟨g, c, h4, h5.kept hF hS⟩
theorem Vls.to {Y : Nat → Prop} {w : World} {h : Nat} {l : List (List UInt8)} (H : Vls X w h l) (hY : ∀ i, Ty w 5 i → ¬ X i → ¬ Y i) : Vls Y w h l := by
  obtain ⟨cs, h1, h2, h3⟩ := H
  refine ⟨cs, h1, h2, fun k x hk => ?_⟩
  obtain ⟨g, c, h4, h5⟩ := h3 k x hk
  exact ⟨g, c, h4, h5.to hY⟩
theorem Vls.at_ {w : World} {h : Nat} {l : List (List UInt8)} (H : Vls X w h l) {k : Nat} {x : List UInt8} (hk : l[k]? = some x) : ∃ g c, w.cell? ⟨h, k, none⟩ = some (.slice (some ⟨g, 0, none⟩) 256 c) ∧ Byt X w g x := by
  obtain ⟨cs, h1, _, h3⟩ := H
  obtain ⟨g, c, h4, h5⟩ := h3 k x hk
  exact ⟨g, c, by rw [cellAt h1]; exact h4, h5⟩
theorem Vls.pos {w : World} {h : Nat} {l : List (List UInt8)} (H : Vls X w h l) : 1 ≤ l.length := by
  obtain ⟨_, _, h2, _⟩ := H
  exact Nat.pos_of_ne_zero (fun e => h2 (List.eq_nil_of_length_eq_zero e))

theorem fr_set (w : World) (b k : Nat) (v : Value) : Fr (fun i => i = b) w (w.setCell ⟨b, k, none⟩ v) := (Fr.refl (fun i => i = b) w).setCell (p := ⟨b, k, none⟩) (Or.inl rfl) v

/-- The document's disk: block yb is its struct's, block gv holds the sectors' rows. -/
structure RD (X : Nat → Prop) (base : Nat) (w : World) (yb gv N : Nat) (L : Nat → List (List UInt8)) (left : Int) (off : Bool) (taken : Int) : Prop where
  yb_ge : base ≤ yb
  gv_ge : base ≤ gv
  blk : ∃ cap, w.heap[yb]? = some (.cells #[.slice (some ⟨gv, 0, none⟩) N cap, .int .i64 left, .bool off, .int .i64 taken] 52 (0, 0))
  row : ∃ cs, w.heap[gv]? = some (.cells cs 58 (0, 0)) ∧ ∀ j, j < N → ∃ h c, cs[j]? = some (.slice (some ⟨h, 0, none⟩) (L j).length c) ∧ Vls X w h (L j)

section
variable {base : Nat} {w : World} {yb gv N : Nat} {L : Nat → List (List UInt8)} {left : Int} {off : Bool} {taken : Int}
theorem RD.tyY (h : RD X base w yb gv N L left off taken) : Ty w 52 yb := by
  obtain ⟨cap, hb⟩ := h.blk
  exact ⟨_, hb⟩
theorem RD.tyG (h : RD X base w yb gv N L left off taken) : Ty w 58 gv := by
  obtain ⟨cs, hb, _⟩ := h.row
  exact ⟨_, hb⟩
theorem RD.kept (h : RD X base w yb gv N L left off taken) {S : Nat → Prop} {w' : World} (hF : Fr S w w') (hy : ¬ S yb) (hg : ¬ S gv) (hS : ∀ i, S i → ¬ X i → ¬ Ty w 5 i) (hS2 : ∀ i, S i → ¬ Ty w 22 i) : RD X base w' yb gv N L left off taken := by
  have hY := h.tyY.lt
  have hG := h.tyG.lt
  obtain ⟨cap, hb⟩ := h.blk
  obtain ⟨cs, hr, hj⟩ := h.row
  refine ⟨h.yb_ge, h.gv_ge, ⟨cap, (hF.block yb hY hy).trans hb⟩, ⟨cs, (hF.block gv hG hg).trans hr, fun j hjN => ?_⟩⟩
  obtain ⟨h', c, h1, h2⟩ := hj j hjN
  exact ⟨h', c, h1, h2.kept hF hS hS2⟩
theorem RD.to {Y : Nat → Prop} (h : RD X base w yb gv N L left off taken) (hY : ∀ i, Ty w 5 i → ¬ X i → ¬ Y i) : RD Y base w yb gv N L left off taken := by
  obtain ⟨cs, hr, hj⟩ := h.row
  refine ⟨h.yb_ge, h.gv_ge, h.blk, ⟨cs, hr, fun j hjN => ?_⟩⟩
  obtain ⟨h', c, h1, h2⟩ := hj j hjN
  exact ⟨h', c, h1, h2.to hY⟩
theorem RD.calm (h : RD X base w yb gv N L left off taken) {w' : World} (hF : Fr (fun _ => False) w w') : RD X base w' yb gv N L left off taken := h.kept hF id id (fun _ e _ => e.elim) (fun _ e => e.elim)
theorem RD.c0 (h : RD X base w yb gv N L left off taken) : ∃ cap, w.cell? ⟨yb, 0, none⟩ = some (.slice (some ⟨gv, 0, none⟩) N cap) := by
  obtain ⟨cap, hb⟩ := h.blk
  exact ⟨cap, by rw [cellAt hb]; rfl⟩
theorem RD.c1 (h : RD X base w yb gv N L left off taken) : w.cell? ⟨yb, 1, none⟩ = some (.int .i64 left) := by
  obtain ⟨cap, hb⟩ := h.blk
  rw [cellAt hb]; rfl
theorem RD.c2 (h : RD X base w yb gv N L left off taken) : w.cell? ⟨yb, 2, none⟩ = some (.bool off) := by
  obtain ⟨cap, hb⟩ := h.blk
  rw [cellAt hb]; rfl
theorem RD.c3 (h : RD X base w yb gv N L left off taken) : w.cell? ⟨yb, 3, none⟩ = some (.int .i64 taken) := by
  obtain ⟨cap, hb⟩ := h.blk
  rw [cellAt hb]; rfl
theorem RD.free (h : RD X base w yb gv N L left off taken) (k : Nat) : w.frozen? ⟨yb, k, none⟩ = false := by
  obtain ⟨cap, hb⟩ := h.blk
  exact freeAt hb k
theorem RD.freeG (h : RD X base w yb gv N L left off taken) (k : Nat) : w.frozen? ⟨gv, k, none⟩ = false := by
  obtain ⟨cs, hb, _⟩ := h.row
  exact freeAt hb k
theorem RD.at_ (h : RD X base w yb gv N L left off taken) {j : Nat} (hj : j < N) : ∃ b c, w.cell? ⟨gv, j, none⟩ = some (.slice (some ⟨b, 0, none⟩) (L j).length c) ∧ Vls X w b (L j) := by
  obtain ⟨cs, hr, hx⟩ := h.row
  obtain ⟨b, c, h1, h2⟩ := hx j hj
  exact ⟨b, c, by rw [cellAt hr]; exact h1, h2⟩
theorem tyU : (5 : TypeId) ≠ 52 ∧ (5 : TypeId) ≠ 58 ∧ (22 : TypeId) ≠ 52 ∧ (22 : TypeId) ≠ 58 ∧ (58 : TypeId) ≠ 52 := by decide
/-- One of the disk's own cells anew. -/
theorem RD.field (h : RD X base w yb gv N L left off taken) {w' : World} {left' : Int} {off' : Bool} {taken' : Int} (hF : Fr (· = yb) w w')
    (hb : ∀ cap, w.heap[yb]? = some (.cells #[.slice (some ⟨gv, 0, none⟩) N cap, .int .i64 left, .bool off, .int .i64 taken] 52 (0, 0)) → w'.heap[yb]? = some (.cells #[.slice (some ⟨gv, 0, none⟩) N cap, .int .i64 left', .bool off', .int .i64 taken'] 52 (0, 0))) : RD X base w' yb gv N L left' off' taken' := by
  have hY := h.tyY
  have hG := h.tyG
  obtain ⟨cap, hb0⟩ := h.blk
  obtain ⟨cs, hr, hj⟩ := h.row
  refine ⟨h.yb_ge, h.gv_ge, ⟨cap, hb cap hb0⟩, ⟨cs, (hF.block gv hG.lt (hG.ne hY tyU.2.2.2.2)).trans hr, fun j hjN => ?_⟩⟩
  obtain ⟨h', c, h1, h2⟩ := hj j hjN
  exact ⟨h', c, h1, h2.kept hF (fun i e _ t => t.ne hY tyU.1 e) (fun i e t => t.ne hY tyU.2.2.1 e)⟩
theorem RD.set1 (h : RD X base w yb gv N L left off taken) (x : Int) : RD X base (w.setCell ⟨yb, 1, none⟩ (.int .i64 x)) yb gv N L x off taken :=
  h.field (fr_set w yb _ _) (fun cap hb => by rw [heap_setCell_same _ _ _ _ _ _ hb]; rfl)
theorem RD.set2 (h : RD X base w yb gv N L left off taken) (x : Bool) : RD X base (w.setCell ⟨yb, 2, none⟩ (.bool x)) yb gv N L left x taken :=
  h.field (fr_set w yb _ _) (fun cap hb => by rw [heap_setCell_same _ _ _ _ _ _ hb]; rfl)
theorem RD.set3 (h : RD X base w yb gv N L left off taken) (x : Int) : RD X base (w.setCell ⟨yb, 3, none⟩ (.int .i64 x)) yb gv N L left off x :=
  h.field (fr_set w yb _ _) (fun cap hb => by rw [heap_setCell_same _ _ _ _ _ _ hb]; rfl)
def updL (L : Nat → List (List UInt8)) (j : Nat) (l : List (List UInt8)) : Nat → List (List UInt8) := fun i => if i = j then l else L i
/-- A sector's row anew. -/
theorem RD.put (h : RD X base w yb gv N L left off taken) {j : Nat} {b c : Nat} {l : List (List UInt8)} (hv : Vls X w b l) : RD X base (w.setCell ⟨gv, j, none⟩ (.slice (some ⟨b, 0, none⟩) l.length c)) yb gv N (updL L j l) left off taken := by
  have hY := h.tyY
  have hG := h.tyG
  have hF : Fr (· = gv) w (w.setCell ⟨gv, j, none⟩ (.slice (some ⟨b, 0, none⟩) l.length c)) := fr_set w gv j _
  have k1 : ∀ i, i = gv → ¬ X i → ¬ Ty w 5 i := fun i e _ t => t.ne hG tyU.2.1 e
  have k2 : ∀ i, i = gv → ¬ Ty w 22 i := fun i e t => t.ne hG tyU.2.2.2.1 e
  obtain ⟨cap, hb0⟩ := h.blk
  obtain ⟨cs, hr, hj⟩ := h.row
  refine ⟨h.yb_ge, h.gv_ge, ⟨cap, (hF.block yb hY.lt (fun e => hG.ne hY tyU.2.2.2.2 e.symm)).trans hb0⟩, ⟨cs.setIfInBounds j (.slice (some ⟨b, 0, none⟩) l.length c), heap_setCell_same _ _ _ _ _ _ hr, fun i hi => ?_⟩⟩
  obtain ⟨b', c', h1, h2⟩ := hj i hi
  unfold updL
  by_cases e : i = j
  · subst e
    rw [if_pos rfl]
    refine ⟨b, c, ?_, hv.kept hF k1 k2⟩
    have hs : i < cs.size := (Array.getElem?_eq_some_iff.1 h1).1
    simp [hs]
  · rw [if_neg e]
    refine ⟨b', c', ?_, h2.kept hF k1 k2⟩
    rw [Array.getElem?_setIfInBounds_ne (fun e2 => e e2.symm)]
    exact h1
end

/-- A new row of one. -/
theorem Vls.one {w : World} {g c : Nat} {x : List UInt8} (hx : Byt X w g x) : Vls X (w.alloc (.cells #[.slice (some ⟨g, 0, none⟩) 256 c] 22)) w.heap.size [x] := by
  refine ⟨_, heap_alloc_new w _, by simp, fun k y hk => ?_⟩
  have hk0 : k < 1 := (List.getElem?_eq_some_iff.1 hk).1
  obtain rfl : k = 0 := by omega
  simp only [List.getElem?_cons_zero, Option.some.injEq] at hk
  subst hk
  exact ⟨g, c, rfl, hx.kept ((Fr.refl _ w).alloc _) (S := fun _ => False) (fun _ e _ => e.elim)⟩

end
end Go.Proofs.Ytbmbibepcnpngaa.rf
