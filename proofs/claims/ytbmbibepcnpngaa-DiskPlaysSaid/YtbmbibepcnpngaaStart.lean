/-
  DiskPlays's start: both disks, new or of an image.
-/
import Derived.Test.YtbmbibepcnpngaaPEnd
namespace Go.Proofs.Ytbmbibepcnpngaa.play
open Go.RowKit Go.Maps Go.ChangeShapes Go.WideShapes Go.Deep

/-- Behind the start: both disks are there and the same, or neither is. -/
def Begun (w0 : World) (v7 : Value) (z8 : Int) (v9 : Value) (z10 : Int) (w : World) : Prop :=
  (∃ pb yb N : Nat, 1 ≤ N ∧ N ≤ 4096 ∧ v7 = .pointer (some ⟨pb, 0, none⟩) ∧ z8 = 0 ∧ v9 = .pointer (some ⟨yb, 0, none⟩) ∧ z10 = 0 ∧ JtE (fun _ => False) w0 pb yb N 5000 w) ∨
  (v7 = .pointer none ∧ z8 = 2 ∧ v9 = .pointer none ∧ z10 = 2 ∧ Fr (fun _ => False) w0 w)
theorem Begun.fr {w0 : World} {v7 : Value} {z8 : Int} {v9 : Value} {z10 : Int} {w : World} (h : Begun w0 v7 z8 v9 z10 w) : Fr (fun _ => False) w0 w := by
  rcases h with ⟨pb, yb, N, _, _, _, _, _, _, h⟩ | ⟨_, _, _, _, h⟩
  · exact h.fr
  · exact h

theorem news (w : World) (n : Int) : Calls Try.prog 9 #[.int .i64 n] w fun e w1 => ∃ v7 z8, e = .returned (.tuple #[v7, .int .i64 z8]) ∧
    Calls Try.prog 10 #[.int .i64 n] w1 fun e w2 => ∃ v9 z10, e = .returned (.tuple #[v9, .int .i64 z10]) ∧ Begun w v7 z8 v9 z10 w2 := by
  by_cases h : 1 ≤ n ∧ n ≤ 4096
  · obtain ⟨N, rfl⟩ : ∃ N : Nat, n = N := ⟨n.toNat, by omega⟩
    have h1 : 1 ≤ N := by omega
    have h2 : N ≤ 4096 := by omega
    refine (new_good w N h1 h2).mono ?_
    intro e w1 hg
    have hg' := hg
    obtain ⟨pb0, bv0, bt0, rfl, _, _, _, _, _⟩ := hg'
    refine ⟨_, _, rfl, (rf.new_ok w1 N h1 h2).mono ?_⟩
    intro e2 w2 hr
    obtain ⟨pb, yb, e1, rfl, hJ⟩ := start_new hg hr
    cases e1
    exact ⟨_, _, rfl, Or.inl ⟨_, yb, N, h1, h2, rfl, rfl, rfl, rfl, hJ⟩⟩
  · refine (new_no w n (by omega)).mono ?_
    rintro e w1 ⟨rfl, rfl⟩
    refine ⟨_, _, rfl, (rf.new_no w n (by omega)).mono ?_⟩
    rintro e w2 ⟨rfl, rfl⟩
    exact ⟨_, _, rfl, Or.inr ⟨rfl, rfl, rfl, rfl, Fr.refl _ _⟩⟩

theorem own_cap {w : World} {base cap : Nat} {A : Option Addr} {l : List UInt8} (h : Own w base (.slice A l.length cap) l) : l.length ≤ cap := by
  obtain ⟨_, h | ⟨g, c, cur, e, _, _, h1, _⟩⟩ := h
  · have h2 := h.2
    omega
  · cases e
    exact h1

theorem loads {w0 w : World} (h0 : Fr (fun _ => False) w0 w) (pI : Option Addr) (capI : Nat) (l : List UInt8) (hI : Rd w0 w0.heap.size pI l) (hIc : l.length ≤ capI) {B : Nat} {A : Option Addr} {cap : Nat} (ho : Own w B (.slice A l.length cap) l) (hl : l.length ≤ 140737488351232) {m : Nat} (hm : m = l.length) :
    Calls Try.prog 11 #[.slice A l.length cap] w fun e w1 => ∃ v7 z8, e = .returned (.tuple #[v7, .int .i64 z8]) ∧
    Calls Try.prog 13 #[.slice pI m capI] w1 fun e w2 => ∃ v9 z10, e = .returned (.tuple #[v9, .int .i64 z10]) ∧ Begun w0 v7 z8 v9 z10 w2 := by
  subst hm
  have hcap := own_cap ho
  by_cases h256 : l.length % 256 = 0
  · obtain ⟨N, hN⟩ : ∃ N, l.length = 256 * N := ⟨l.length / 256, by omega⟩
    by_cases h : 1 ≤ N ∧ N ≤ 4096
    · refine (dl.load_good w w.heap.size A l.length cap N l ho.rd rfl hcap hN h.1 h.2 (Nat.le_refl _)).mono ?_
      intro e w1 hg
      have hg' := hg
      obtain ⟨pb0, bv0, bt0, rfl, _, _, _, _, hF1⟩ := hg'
      have hs := hF1.size
      have hs0 := h0.size
      refine ⟨_, _, rfl, (rf.load_ok w1 w1.heap.size pI l.length capI N l ((hI.still (h0.trans hF1 (fun _ _ e => e)) (Nat.le_refl _)).more (by omega)) rfl hIc hN h.1 h.2 (Nat.le_refl _)).mono ?_⟩
      intro e2 w2 hr
      obtain ⟨pb, yb, e1, rfl, hJ⟩ := start_load h0 h.2 hg hr
      cases e1
      exact ⟨_, _, rfl, Or.inl ⟨_, yb, N, h.1, h.2, rfl, rfl, rfl, rfl, hJ⟩⟩
    · refine (dl.load_no w A l.length cap N hN (by omega) hl).mono ?_
      rintro e w1 ⟨rfl, rfl⟩
      refine ⟨_, _, rfl, (rf.load_no w pI l.length capI N hN (by omega) hl).mono ?_⟩
      rintro e w2 ⟨rfl, rfl⟩
      exact ⟨_, _, rfl, Or.inr ⟨rfl, rfl, rfl, rfl, h0⟩⟩
  · refine (dl.load_odd w A l.length cap h256 hl).mono ?_
    rintro e w1 ⟨rfl, rfl⟩
    refine ⟨_, _, rfl, (rf.load_odd w pI l.length capI h256 hl).mono ?_⟩
    rintro e w2 ⟨rfl, rfl⟩
    exact ⟨_, _, rfl, Or.inr ⟨rfl, rfl, rfl, rfl, h0⟩⟩
/-- The images and the sure bytes of both disks. -/
theorem JtE.image {w0 w : World} {pb yb N B : Nat} (h : JtE (fun _ => False) w0 pb yb N B w) : Calls Try.prog 33 #[.pointer (some ⟨pb, 0, none⟩)] w (ImHalf yb 34 w) := by
  obtain ⟨bv, bt, gv, c, ops, lim, dk, V, T, L, h⟩ := h
  exact h.image
theorem JtE.sure {w0 w : World} {pb yb N B : Nat} (h : JtE (fun _ => False) w0 pb yb N B w) : Calls Try.prog 35 #[.pointer (some ⟨pb, 0, none⟩)] w (ImHalf yb 36 w) := by
  obtain ⟨bv, bt, gv, c, ops, lim, dk, V, T, L, h⟩ := h
  exact h.sure
/-- SameBytes of two images. -/
theorem image_same {w w1 w2 : World} {A1 A2 : Option Addr} {c1 c2 : Nat} {l : List UInt8} (hl : l.length ≤ 140737488351232) (h1 : Rd w1 w1.heap.size A1 l) (hF : Fr (fun _ => False) w1 w2) (h2 : Rd w2 w2.heap.size A2 l) (h0 : Fr (fun _ => False) w w2) :
    Calls Try.prog 22 #[.slice A1 l.length c1, .slice A2 l.length c2] w2 fun e w3 => e = .returned (.bool true) ∧ Fr (fun _ => False) w w3 := by
  refine (same_any w2 A1 A2 w2.heap.size w2.heap.size c1 c2 l l ((h1.still hF (Nat.le_refl _)).more hF.size) h2 hl).mono ?_
  rintro e w3 ⟨rfl, hC⟩
  exact ⟨by simp, h0.trans hC.fr (fun _ _ e => e)⟩
end Go.Proofs.Ytbmbibepcnpngaa.play
