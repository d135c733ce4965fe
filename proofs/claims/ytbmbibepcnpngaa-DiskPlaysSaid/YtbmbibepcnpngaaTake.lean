/-
  disk's smallest calls: made, has, take.
-/
import Derived.Test.YtbmbibepcnpngaaProg
import Derived.Test.YtbmbibepcnpngaaMem
namespace Go.Proofs.Ytbmbibepcnpngaa
open Go.RowKit Go.Maps

set_option maxHeartbeats 400000 in
theorem made_nil (w : World) : Calls Try.prog 41 #[.pointer none] w fun e w' => e = .returned (.bool false) ∧ w = w' := by
  go_enter Try.func41, Try.ntmps41
  go_wp2
  go_ret
  exact ⟨rfl, rfl⟩

set_option maxHeartbeats 400000 in
theorem made_any (pb : Nat) (N : Int) (w : World) (c0 : w.cell? ⟨pb, 0, none⟩ = some (.int .i64 N)) : Calls Try.prog 41 #[.pointer (some ⟨pb, 0, none⟩)] w fun e w' => e = .returned (.bool (decide (0 < N))) ∧ w = w' := by
  go_enter Try.func41, Try.ntmps41
  go_wp2
  go_ret
  exact ⟨rfl, rfl⟩

theorem made_yes (pb : Nat) (N : Int) (w : World) (c0 : w.cell? ⟨pb, 0, none⟩ = some (.int .i64 N)) (hN : 0 < N) : Calls Try.prog 41 #[.pointer (some ⟨pb, 0, none⟩)] w fun e w' => e = .returned (.bool true) ∧ w = w' :=
  (made_any pb N w c0).mono fun e w' h => by rw [decide_eq_true hN] at h; exact h

set_option maxHeartbeats 400000 in
theorem has_any (pb : Nat) (N at_ : Int) (w : World) (c0 : w.cell? ⟨pb, 0, none⟩ = some (.int .i64 N)) : Calls Try.prog 42 #[.pointer (some ⟨pb, 0, none⟩), .int .i64 at_] w fun e w' => e = .returned (.bool (decide (0 ≤ at_) && decide (at_ < N))) ∧ w = w' := by
  by_cases h : 0 ≤ at_
  · go_enter Try.func42, Try.ntmps42
    go_wp2
    go_ret
    exact ⟨by simp [h], rfl⟩
  · go_enter Try.func42, Try.ntmps42
    go_wp2
    go_ret
    exact ⟨by simp; omega, rfl⟩

/-- The six cells of a disk. -/
abbrev dcells (N : Int) (bv bt : Nat) (ops lim : Int) (dk : Bool) : Array Value := #[.int .i64 N, .map (some bv), .map (some bt), .int .i64 ops, .int .i64 lim, .bool dk]

/-- Block pb is a disk's. -/
def Blk (w : World) (pb : Nat) (N : Int) (bv bt : Nat) (ops lim : Int) (dk : Bool) : Prop := w.heap[pb]? = some (.cells (dcells N bv bt ops lim dk) 65 (0, 0))

section
variable {w : World} {pb : Nat} {N : Int} {bv bt : Nat} {ops lim : Int} {dk : Bool}
theorem Blk.c0 (h : Blk w pb N bv bt ops lim dk) : w.cell? ⟨pb, 0, none⟩ = some (.int .i64 N) := by rw [cellAt h]; rfl
theorem Blk.c1 (h : Blk w pb N bv bt ops lim dk) : w.cell? ⟨pb, 1, none⟩ = some (.map (some bv)) := by rw [cellAt h]; rfl
theorem Blk.c2 (h : Blk w pb N bv bt ops lim dk) : w.cell? ⟨pb, 2, none⟩ = some (.map (some bt)) := by rw [cellAt h]; rfl
theorem Blk.c3 (h : Blk w pb N bv bt ops lim dk) : w.cell? ⟨pb, 3, none⟩ = some (.int .i64 ops) := by rw [cellAt h]; rfl
theorem Blk.c4 (h : Blk w pb N bv bt ops lim dk) : w.cell? ⟨pb, 4, none⟩ = some (.int .i64 lim) := by rw [cellAt h]; rfl
theorem Blk.c5 (h : Blk w pb N bv bt ops lim dk) : w.cell? ⟨pb, 5, none⟩ = some (.bool dk) := by rw [cellAt h]; rfl
theorem Blk.free (h : Blk w pb N bv bt ops lim dk) (j : Nat) : w.frozen? ⟨pb, j, none⟩ = false := freeAt h j
theorem Blk.lt (h : Blk w pb N bv bt ops lim dk) : pb < w.heap.size := (Array.getElem?_eq_some_iff.1 h).1
theorem Blk.set2 (h : Blk w pb N bv bt ops lim dk) (b : Nat) : Blk (w.setCell ⟨pb, 2, none⟩ (.map (some b))) pb N bv b ops lim dk := by
  unfold Blk; rw [heap_setCell_same _ _ _ _ _ _ h]; rfl
theorem Blk.set1 (h : Blk w pb N bv bt ops lim dk) (b : Nat) : Blk (w.setCell ⟨pb, 1, none⟩ (.map (some b))) pb N b bt ops lim dk := by
  unfold Blk; rw [heap_setCell_same _ _ _ _ _ _ h]; rfl
theorem Blk.set3 (h : Blk w pb N bv bt ops lim dk) (x : Int) : Blk (w.setCell ⟨pb, 3, none⟩ (.int .i64 x)) pb N bv bt x lim dk := by
  unfold Blk; rw [heap_setCell_same _ _ _ _ _ _ h]; rfl
theorem Blk.set4 (h : Blk w pb N bv bt ops lim dk) (x : Int) : Blk (w.setCell ⟨pb, 4, none⟩ (.int .i64 x)) pb N bv bt ops x dk := by
  unfold Blk; rw [heap_setCell_same _ _ _ _ _ _ h]; rfl
theorem Blk.set5 (h : Blk w pb N bv bt ops lim dk) (x : Bool) : Blk (w.setCell ⟨pb, 5, none⟩ (.bool x)) pb N bv bt ops lim x := by
  unfold Blk; rw [heap_setCell_same _ _ _ _ _ _ h]; rfl
theorem Blk.kept {w' : World} (h : Blk w pb N bv bt ops lim dk) {S : Nat → Prop} (hf : Fr S w w') (hn : ¬ S pb) : Blk w' pb N bv bt ops lim dk := (hf.block pb h.lt hn).trans h
end

theorem Blk.ne_map {w : World} {pb : Nat} {N : Int} {bv bt : Nat} {ops lim : Int} {dk : Bool} (h : Blk w pb N bv bt ops lim dk) {b : Nat} {es : Array MapEntry} {clock : Nat} (hm : w.heap[b]? = some (.map es clock)) : b ≠ pb := by
  intro e
  subst e
  unfold Blk at h
  rw [hm] at h
  cases h

/-- take: the power is gone, or goes. -/
theorem take_no (w : World) {pb : Nat} {N : Int} {bv bt : Nat} {ops lim : Int} {dk : Bool} (hb : Blk w pb N bv bt ops lim dk) (h : lim = 0 ∨ dk = true) :
    Calls Try.prog 43 #[.pointer (some ⟨pb, 0, none⟩)] w fun e w' => e = .returned (.int .i64 10) ∧ Blk w' pb N bv bt ops lim true ∧ Fr (· = pb) w w' ∧ w'.heap.size = w.heap.size := by
  have c4 := hb.c4
  have c5 := hb.c5
  have f5 := hb.free 5
  have F0 := Fr.refl (· = pb) w
  by_cases hl : lim = 0
  · subst hl
    have h1 := hb.set5 true
    have F1 := F0.setCell (p := ⟨pb, 5, none⟩) (Or.inl rfl) (.bool true)
    have H := Lib.hid h1; have HF := Lib.hid F1; clear h1 F1 F0 hb h
    go_enter Try.func43, Try.ntmps43
    go_wp2
    go_ret
    exact ⟨rfl, H.out, HF.out, by simp⟩
  · have hd : dk = true := by simpa [hl] using h
    subst hd
    have hl' : (lim == 0) = false := by simpa using hl
    have H := Lib.hid hb; have HF := Lib.hid F0; clear F0 hb h
    go_enter Try.func43, Try.ntmps43
    go_wp2
    go_ret
    exact ⟨rfl, H.out, HF.out, rfl⟩

def lessOne (lim : Int) : Int := if 0 < lim then lim - 1 else lim

/-- take: an operation is taken. -/
theorem take_yes (w : World) {pb : Nat} {N : Int} {bv bt : Nat} {ops lim : Int} (hb : Blk w pb N bv bt ops lim false) (h : lim ≠ 0) (hlo : -1 ≤ lim) (hhi : lim ≤ 9223372036854775807) (h0 : 0 ≤ ops) (hops : ops ≤ 1000000000000) :
    Calls Try.prog 43 #[.pointer (some ⟨pb, 0, none⟩)] w fun e w' => e = .returned (.int .i64 0) ∧ Blk w' pb N bv bt (ops + 1) (lessOne lim) false ∧ Fr (· = pb) w w' ∧ w'.heap.size = w.heap.size := by
  have c4 := hb.c4
  have c5 := hb.c5
  have c3 := hb.c3
  have f3 := hb.free 3
  have f4 := hb.free 4
  have F0 := Fr.refl (· = pb) w
  have hl' : (lim == 0) = false := by simpa using h
  by_cases hp : 0 < lim
  · have h1 := (hb.set4 (lim - 1)).set3 (ops + 1)
    have F1 := (F0.setCell (p := ⟨pb, 4, none⟩) (Or.inl rfl) (.int .i64 (lim - 1))).setCell (p := ⟨pb, 3, none⟩) (Or.inl rfl) (.int .i64 (ops + 1))
    have e1 : lessOne lim = lim - 1 := if_pos hp
    have H := Lib.hid h1; have HF := Lib.hid F1; have HE := Lib.hid e1; clear h1 F1 F0 hb e1 h
    go_enter Try.func43, Try.ntmps43
    go_wp2
    go_ret
    exact ⟨rfl, by rw [HE.out]; exact H.out, HF.out, by simp⟩
  · have h1 := hb.set3 (ops + 1)
    have F1 := (F0.setCell (p := ⟨pb, 3, none⟩) (Or.inl rfl) (.int .i64 (ops + 1)))
    have e1 : lessOne lim = lim := if_neg hp
    have H := Lib.hid h1; have HF := Lib.hid F1; have HE := Lib.hid e1; clear h1 F1 F0 hb e1 h
    go_enter Try.func43, Try.ntmps43
    go_wp2
    go_ret
    exact ⟨rfl, by rw [HE.out]; exact H.out, HF.out, by simp⟩

end Go.Proofs.Ytbmbibepcnpngaa
