/-
  The document's Print.
-/
import Derived.Test.YtdocanihocbhhaaDoorHeS
namespace Go.Proofs.YtdocanihocbhhaaDoor.he
set_option maxRecDepth 100000
open Go.RowKit Go.Maps
set_option maxRecDepth 100000

theorem lay_tail {Z s : Bts} {r a : Nat} (h1 : Z.length ≤ a) (h2 : a + s.length ≤ Z.length + r) : layL (Z ++ List.replicate r 0) a s s.length = (Z ++ List.replicate (a - Z.length) 0 ++ s) ++ List.replicate (Z.length + r - a - s.length) 0 := by
  unfold layL
  rw [List.take_length, List.take_append, List.take_of_length_le h1, List.take_replicate, Nat.min_eq_left (by omega), List.drop_append, List.drop_of_length_le (by omega), List.nil_append, List.drop_replicate]
  congr 2
  omega
/-- What is printed so far: bytes Z, and noughts up to 512. -/
structure PZ (w0 w : World) (A : Option Addr) (Z : Bts) : Prop where
  own : Own w w0.heap.size (.slice A 512 512) (Z ++ List.replicate (512 - Z.length) 0)
  le : Z.length ≤ 512
  fr : Fr (fun _ => False) w0 w
theorem PZ.len {w0 w : World} {A : Option Addr} {Z : Bts} (h : PZ w0 w A Z) : (Z ++ List.replicate (512 - Z.length) (0 : UInt8)).length = 512 := by
  rw [List.length_append, List.length_replicate]
  have := h.le
  omega
theorem PZ.still {w0 w w' : World} {A : Option Addr} {Z : Bts} (h : PZ w0 w A Z) (hF : Fr (fun _ => False) w w') : PZ w0 w' A Z := ⟨h.own.kept hF, h.le, h.fr.trans hF (fun _ _ e => e)⟩
theorem PZ.put {w0 w : World} {A : Option Addr} {Z : Bts} (h : PZ w0 w A Z) (a : Nat) (s : ByteArray) (h1 : Z.length ≤ a) (h2 : a + s.size ≤ 512) :
    Calls Tryd.prog 37 #[.slice A 512 512, .int .i64 (a : Int), .string s] w fun e w' => e = .returned (.tuple #[]) ∧ PZ w0 w' A (Z ++ List.replicate (a - Z.length) 0 ++ s.data.toList) := by
  have hs : s.data.toList.length = s.size := Array.length_toList
  have ho := h.own
  refine (rput w0 w A 512 512 a (Z ++ List.replicate (512 - Z.length) 0) s (by rw [h.len]; exact ho) h.len.symm h.fr h2 (by decide)).mono ?_
  rintro e w' ⟨rfl, g1, g2⟩
  have hle := h.le
  rw [← hs, lay_tail h1 (by omega)] at g1
  have hz : (Z ++ List.replicate (a - Z.length) 0 ++ s.data.toList).length = a + s.size := by
    rw [List.length_append, List.length_append, List.length_replicate, hs]
    omega
  refine ⟨rfl, ⟨?_, by omega, g2⟩⟩
  rw [hz]
  rw [show Z.length + (512 - Z.length) - a - s.data.toList.length = 512 - (a + s.size) by omega] at g1
  exact g1
theorem PZ.set {w0 w : World} {A : Option Addr} {Z : Bts} (h : PZ w0 w A Z) {a : Nat} (h1 : Z.length ≤ a) (h2 : a < 512) (x : UInt8) : ∃ g, A = some ⟨g, 0, none⟩ ∧ (∃ v, w.cell? ⟨g, a, none⟩ = some v) ∧ w.frozen? ⟨g, a, none⟩ = false ∧ PZ w0 (w.setCell ⟨g, a, none⟩ (.int .u8 (x.toNat : Int))) A (Z ++ List.replicate (a - Z.length) 0 ++ [x]) := by
  have ho := h.own
  have hl := h.len
  have hle := h.le
  unfold Own at ho
  obtain ⟨g, e, hb, hlt, hc, hf, hs⟩ := Own.at_ (l := Z ++ List.replicate (512 - Z.length) 0) (A := A) (cap := 512) (k := a) (by rw [hl]; exact h.own) (by rw [hl]; exact h2)
  have h3 := hs x
  have hset : (Z ++ List.replicate (512 - Z.length) 0).set a x = (Z ++ List.replicate (a - Z.length) 0 ++ [x]) ++ List.replicate (512 - (a + 1)) 0 := by
    have h4 := layL_next (l := Z ++ List.replicate (512 - Z.length) 0) (s := [x]) (a := a) (k := 0) (by rw [hl]; exact h2) (by simp)
    rw [layL_zero] at h4
    have h5 := lay_tail (Z := Z) (s := [x]) (r := 512 - Z.length) (a := a) h1 (by simp; omega)
    rw [show ([x] : Bts)[0] = x from rfl, Nat.add_zero] at h4
    rw [h4]
    rw [show (0 + 1) = ([x] : Bts).length from rfl, h5]
    congr 2
    simp
    omega
  have hz : (Z ++ List.replicate (a - Z.length) 0 ++ [x]).length = a + 1 := by
    rw [List.length_append, List.length_append, List.length_replicate]
    simp
    omega
  refine ⟨g, e, ⟨_, hc⟩, hf, ⟨?_, by omega, h.fr.setCell (p := ⟨g, a, none⟩) (Or.inr hb) _⟩⟩
  rw [List.length_set, hl, hset] at h3
  rw [hz]
  exact h3
theorem pz_new (w : World) : PZ w (w.alloc (.cells (zb 512) 5)) (some ⟨w.heap.size, 0, none⟩) [] := by
  have h := own_zb w 512 (by decide)
  refine ⟨?_, by decide, (Fr.refl _ w).alloc _⟩
  rw [List.length_replicate] at h
  exact h
/-! ### what is printed -/
/-- One more put. -/
def nx (Z : Bts) (a : Nat) (s : Bts) : Bts := Z ++ List.replicate (a - Z.length) 0 ++ s
theorem nx_len {Z s : Bts} {a : Nat} (h : Z.length ≤ a) : (nx Z a s).length = a + s.length := by
  unfold nx
  rw [List.length_append, List.length_append, List.length_replicate]
  omega
def pcN (name link pre : Bts) (mode size : Nat) (kind : UInt8) : Nat → Nat × Bts
  | 0 => (0, name)
  | 1 => (100, (octL 7 mode))
  | 2 => (108, (octL 7 0))
  | 3 => (116, (octL 7 0))
  | 4 => (124, (octL 11 size))
  | 5 => (136, (octL 11 0))
  | 6 => (156, [kind])
  | 7 => (157, link)
  | 8 => (257, ustar)
  | _ => (345, pre)
def zN (name link pre : Bts) (mode size : Nat) (kind : UInt8) : Nat → Bts
  | 0 => []
  | k + 1 => nx (zN name link pre mode size kind k) (pcN name link pre mode size kind k).1 (pcN name link pre mode size kind k).2
section
variable {name link pre : Bts} {mode size : Nat} {kind : UInt8}
theorem z1 : zN name link pre mode size kind 1 = nx (zN name link pre mode size kind 0) 0 name := rfl
theorem z2 : zN name link pre mode size kind 2 = nx (zN name link pre mode size kind 1) 100 (octL 7 mode) := rfl
theorem z3 : zN name link pre mode size kind 3 = nx (zN name link pre mode size kind 2) 108 (octL 7 0) := rfl
theorem z4 : zN name link pre mode size kind 4 = nx (zN name link pre mode size kind 3) 116 (octL 7 0) := rfl
theorem z5 : zN name link pre mode size kind 5 = nx (zN name link pre mode size kind 4) 124 (octL 11 size) := rfl
theorem z6 : zN name link pre mode size kind 6 = nx (zN name link pre mode size kind 5) 136 (octL 11 0) := rfl
theorem z7 : zN name link pre mode size kind 7 = nx (zN name link pre mode size kind 6) 156 [kind] := rfl
theorem z8 : zN name link pre mode size kind 8 = nx (zN name link pre mode size kind 7) 157 link := rfl
theorem z9 : zN name link pre mode size kind 9 = nx (zN name link pre mode size kind 8) 257 ustar := rfl
theorem z10 : zN name link pre mode size kind 10 = nx (zN name link pre mode size kind 9) 345 pre := rfl
theorem zN_lens (h1 : name.length ≤ 100) (h2 : link.length ≤ 100) : (zN name link pre mode size kind 1).length = name.length ∧ (zN name link pre mode size kind 2).length = 107 ∧ (zN name link pre mode size kind 3).length = 115 ∧ (zN name link pre mode size kind 4).length = 123 ∧ (zN name link pre mode size kind 5).length = 135 ∧ (zN name link pre mode size kind 6).length = 147 ∧ (zN name link pre mode size kind 7).length = 157 ∧ (zN name link pre mode size kind 8).length = 157 + link.length ∧ (zN name link pre mode size kind 9).length = 265 ∧ (zN name link pre mode size kind 10).length = 345 + pre.length := by
  have l1 : (zN name link pre mode size kind 1).length = name.length := by rw [z1, nx_len (by exact Nat.le_refl _), Nat.zero_add]
  have l2 : (zN name link pre mode size kind 2).length = 107 := by rw [z2, nx_len (by omega), octL_length]
  have l3 : (zN name link pre mode size kind 3).length = 115 := by rw [z3, nx_len (by omega), octL_length]
  have l4 : (zN name link pre mode size kind 4).length = 123 := by rw [z4, nx_len (by omega), octL_length]
  have l5 : (zN name link pre mode size kind 5).length = 135 := by rw [z5, nx_len (by omega), octL_length]
  have l6 : (zN name link pre mode size kind 6).length = 147 := by rw [z6, nx_len (by omega), octL_length]
  have l7 : (zN name link pre mode size kind 7).length = 157 := by rw [z7, nx_len (by omega)]; rfl
  have l8 : (zN name link pre mode size kind 8).length = 157 + link.length := by rw [z8, nx_len (by omega)]
  have l9 : (zN name link pre mode size kind 9).length = 265 := by rw [z9, nx_len (by omega)]; rfl
  have l10 : (zN name link pre mode size kind 10).length = 345 + pre.length := by rw [z10, nx_len (by omega)]
  exact ⟨l1, l2, l3, l4, l5, l6, l7, l8, l9, l10⟩
set_option maxHeartbeats 1000000 in
theorem zN_all (h1 : name.length ≤ 100) (h2 : link.length ≤ 100) (h3 : pre.length ≤ 155) : zN name link pre mode size kind 10 ++ List.replicate (512 - (zN name link pre mode size kind 10).length) 0 = hdrV name link pre mode size kind (List.replicate 8 0) := by
  obtain ⟨l1, l2, l3, l4, l5, l6, l7, l8, l9, l10⟩ := zN_lens (name := name) (link := link) (pre := pre) (mode := mode) (size := size) (kind := kind) h1 h2
  rw [l10]
  have e1 : zN name link pre mode size kind 1 = name := rfl
  have e2 : zN name link pre mode size kind 2 = padR 100 name ++ octL 7 mode := by rw [z2, nx, l1, e1]; rfl
  have e6 : zN name link pre mode size kind 6 = padR 100 name ++ octL 7 mode ++ [0] ++ octL 7 0 ++ [0] ++ octL 7 0 ++ [0] ++ octL 11 size ++ [0] ++ octL 11 0 := by
    rw [z6, nx, l5, z5, nx, l4, z4, nx, l3, z3, nx, l2, e2]
    rfl
  have e10 : zN name link pre mode size kind 10 = zN name link pre mode size kind 6 ++ ([0] ++ List.replicate 8 0) ++ [kind] ++ padR 100 link ++ ustar ++ List.replicate 80 0 ++ pre := by
    rw [z10, nx, l9, z9, nx, l8, z8, nx, l7, z7, nx, l6]
    generalize zN name link pre mode size kind 6 = Z6
    unfold padR
    rw [show 257 - (157 + link.length) = 100 - link.length by omega, show List.replicate (156 - 147) (0 : UInt8) = [0] ++ List.replicate 8 0 from rfl, show List.replicate (157 - 157) (0 : UInt8) = [] from rfl, show 345 - 265 = 80 from rfl, List.append_nil]
    simp only [List.append_assoc]
  have e11 : pre ++ List.replicate (512 - (345 + pre.length)) (0 : UInt8) = padR 155 pre ++ List.replicate 12 0 := by
    have hx : 512 - (345 + pre.length) = (155 - pre.length) + 12 := by omega
    unfold padR
    rw [hx, ← List.replicate_append_replicate, ← List.append_assoc]
  rw [e10, e6, List.append_assoc _ pre, e11]
  unfold hdrV preH postH
  simp only [List.append_assoc]
end
theorem lay_mid {P s t Q : Bts} (h : s.length = t.length) : layL (P ++ s ++ Q) P.length t t.length = P ++ t ++ Q := by
  unfold layL
  rw [List.take_length, show P ++ s ++ Q = P ++ (s ++ Q) from List.append_assoc _ _ _, List.take_left, ← List.drop_drop, List.drop_left, ← h, List.drop_left]
/-- What Print answers. -/
def PrA (w : World) (V : Bts × Int) (e : Ending) (w' : World) : Prop := ∃ A cap, e = .returned (.tuple #[.slice A V.1.length cap, .int .i64 V.2]) ∧ Own w' w.heap.size (.slice A V.1.length cap) V.1 ∧ Fr (fun _ => False) w w'
theorem PrA.no {w w' : World} {k : Int} (hF : Fr (fun _ => False) w w') : PrA w ([], k) (.returned (.tuple #[.slice none 0 0, .int .i64 k])) w' := ⟨none, 0, rfl, World.ownsRow_nil _ _ _ _, hF⟩
end Go.Proofs.YtdocanihocbhhaaDoor.he
