/-
  What comes into WalWhole and WalAgain: crashes with their picks.
-/
import Derived.Test.YtflapnbpaodhaaaGreatDoorByI
import Derived.Test.YtflapnbpaodhaaaGreatDoorDk
import Derived.Lib.SmallJoins
import Derived.Deep.Slices
import Derived.Deep.Fields
import Derived.ChangeSame
import Derived.SizedLaws
namespace Go.Proofs.YtflapnbpaodhaaaGreatDoor.cu
set_option maxRecDepth 100000
open Go.Joins Go.RowKit Go.Maps Go.ChangeShapes Go.WideShapes Go.Deep ds
set_option maxRecDepth 100000

theorem weights_mem {H : Type} {P : Program} {e : TypeId} : ∀ {l : List (DataW H)} {i : Nat} {d : DataW H}, l[i]? = some d → ∀ n ∈ d.weights P e, n ∈ DataW.weightsAll P e l
  | [], _, _, h, _, _ => by simp at h
  | x :: l, 0, d, h, n, hn => by
    simp only [List.getElem?_cons_zero, Option.some.injEq] at h
    subst h
    simp only [DataW.weightsAll, List.mem_append]
    exact Or.inl hn
  | x :: l, i + 1, d, h, n, hn => by
    rw [List.getElem?_cons_succ] at h
    simp only [DataW.weightsAll, List.mem_append]
    exact Or.inr (weights_mem h n hn)

/-- Picks, below block B. -/
def PickV (w : World) (B : Nat) (v : Value) (l : List Int) : Prop := ∃ A cap, v = .slice A l.length cap ∧ RdI w B A l ∧ l.length ≤ 140737488351232
theorem PickV.still {w w' : World} {B : Nat} {v : Value} {l : List Int} (h : PickV w B v l) (hF : Fr (fun _ => False) w w') (hB : B ≤ w.heap.size) : PickV w' B v l := by
  obtain ⟨A, cap, e, hr, hl⟩ := h
  exact ⟨A, cap, e, hr.still hF hB, hl⟩

section
variable {H : Type} {enc : TypeId × Value → H} {w : World} {base : Nat} {spare : Nat → Bool} {held : Bool}
theorem picks_open {v : Value} {y : DataW H × List MemPlace} {n : Nat} (hs : ∀ b, spare b = true) (hw : ∀ k ∈ y.1.weights Tryz.prog 22, k ≤ reachBytes) (f : DataW.trod enc Tryz.prog w base spare held n 22 [v] = some y) : ∃ l, PickV w w.heap.size v l := by
  rcases open_ints Tryz.underlying22 Tryz.underlying3 cellsI f with ⟨hc, _⟩ | ⟨ad4, ln, cp, zs, hc, _, hl4, hm4, hz, hx4, hcell, hwf⟩
  · obtain rfl : v = .slice none 0 0 := by simpa using hc
    exact ⟨[], none, 0, rfl, RdI.nil _ _ _, by simp⟩
  · obtain rfl : v = .slice (some ad4) ln cp := by simpa using hc
    rw [if_pos (hs _)] at hz
    have hreach := hw ((zs.take ln).length * 8 + (zs.drop ln).length * 8) (by
      rw [hx4]
      simp only [DataW.weights, Tryz.underlying22, lits, List.length_map]
      rw [bytesI, Nat.add_mul]
      exact List.mem_cons_self)
    rw [List.length_take, List.length_drop] at hreach
    simp only [reachBytes] at hreach
    have hlen4 : (zs.take ln).length = ln := by rw [List.length_take]; omega
    refine ⟨zs.take ln, some ad4, cp, by rw [hlen4], ⟨fun hne => ?_, fun x hx => ?_⟩, by rw [hlen4]; omega⟩
    · have h0 : 0 < ln := by
        rcases Nat.eq_zero_or_pos ln with e | e
        · exact absurd (List.eq_nil_of_length_eq_zero (hlen4.trans e)) hne
        · exact e
      obtain ⟨e1, e2⟩ := addr_of_cell (hcell 0 (by omega))
      refine ⟨ad4.block, ad4.off, by rw [← e1], e2, fun j x hj => ?_⟩
      have hj2 := (List.getElem?_eq_some_iff.1 hj).1
      have hj' : j < ln := by omega
      rw [List.getElem?_take_of_lt hj'] at hj
      have h1 := cell_add e1 (hcell j (by omega))
      rw [List.getD_eq_getElem?_getD, hj] at h1
      exact h1
    · have hw := hwf x (List.mem_of_mem_take hx)
      simpa using bounds_i64 hw

/-- A crash, by value. -/
theorem cut_open {r : Reach} {b0 : Nat} {v : Value} {d : DataW H} {p : List MemPlace} (hs : ∀ b, spare b = true) (hw : ∀ k ∈ d.weights Tryz.prog 41, k ≤ reachBytes) (hv : Value.okWide Tryz.prog w r b0 41 v) (h : DataW.Trod enc Tryz.prog w base spare held 41 v d p) :
    ∃ z v1 l, v = .agg #[.int .i64 z, v1] ∧ PickV w w.heap.size v1 l := by
  obtain ⟨v0, v1, y0, y1, n, rfl, rfl, rfl, f0, f1⟩ := open_agg2 Tryz.underlying41 (by kernel_rfl) (by kernel_rfl) hv h
  obtain ⟨z, e0, _, _⟩ := DataW.trod_int Tryz.underlying3 f0
  obtain rfl : v0 = .int .i64 z := by simpa using e0
  obtain ⟨l, hl⟩ := picks_open hs (fun k hk => hw k (by
    simp only [DataW.weights, Tryz.underlying41, List.map, DataW.weightsEach, List.mem_append]
    exact Or.inr (Or.inl hk))) f1
  exact ⟨z, v1, l, rfl, hl⟩

/-- Crashes, in a row. -/
def CutsP (w : World) (B : Nat) (A : Option Addr) (l : List (Int × Value × List Int)) : Prop := l ≠ [] → ∃ blk off, A = some ⟨blk, off, none⟩ ∧ blk < B ∧ ∀ i x, l[i]? = some x → w.cell? ⟨blk, off + i * 2, none⟩ = some (.int .i64 x.1) ∧ w.cell? ⟨blk, off + i * 2 + 1, none⟩ = some x.2.1 ∧ PickV w B x.2.1 x.2.2
theorem CutsP.still {w w' : World} {B : Nat} {A : Option Addr} {l : List (Int × Value × List Int)} (h : CutsP w B A l) (hF : Fr (fun _ => False) w w') (hB : B ≤ w.heap.size) : CutsP w' B A l := fun hne => by
  obtain ⟨blk, off, e, hb, hc⟩ := h hne
  refine ⟨blk, off, e, hb, fun i x hi => ?_⟩
  obtain ⟨c0, c1, c2⟩ := hc i x hi
  have k : ∀ o v, w.cell? ⟨blk, o, none⟩ = some v → w'.cell? ⟨blk, o, none⟩ = some v := fun o v hv => (World.cell?_of_block (w := w) (w' := w') (a := ⟨blk, o, none⟩) (hF.block blk (by omega) id)).trans hv
  exact ⟨k _ _ c0, k _ _ c1, c2.still hF hB⟩
theorem cuts_open {a : Option Addr} {len cap : Nat} {d : DataW H} {ps : List MemPlace} (hs : ∀ b, spare b = true) (hsz : ∀ n ∈ d.weights Tryz.prog 23, n ≤ reachBytes) (h : DataW.Trod enc Tryz.prog w base spare held 23 (.slice a len cap) d ps) : ∃ l, len = l.length ∧ l.length ≤ 9223372036854775807 ∧ CutsP w w.heap.size a l := by
  obtain ⟨fuel, hf⟩ := h
  have hf' : DataW.trod enc Tryz.prog w base spare held fuel 23 [.slice a len cap] = some (d, ps) := hf
  rcases open_slice Tryz.underlying23 hf' with ⟨hc, _⟩ | ⟨ad, ln, cp, m, n, D, Pl, hc, _, hl, hm, hmm, hd, hx⟩
  · simp only [List.cons.injEq, Value.slice.injEq, and_true] at hc
    obtain ⟨rfl, rfl, rfl⟩ := hc
    exact ⟨[], rfl, by simp, fun h => absurd rfl h⟩
  · simp only [List.cons.injEq, Value.slice.injEq, and_true] at hc
    obtain ⟨rfl, rfl, rfl⟩ := hc
    rw [if_pos (hs _)] at hmm
    have hd1 : d = .slice (List.map D (List.range len)) (List.map (fun j => D (len + j)) (List.range (m - len))) := (Prod.mk.inj hd).1
    have hlenb : len ≤ 9223372036854775807 := by
      have h := hsz ((len + (m - len)) * Tryz.prog.bytesOf 41) (by rw [hd1]; simp only [DataW.weights, Tryz.underlying23, List.length_map, List.length_range]; exact List.mem_cons_self)
      rw [show Tryz.prog.bytesOf 41 = 32 by kernel_rfl] at h
      simp only [reachBytes] at h
      omega
    have each : ∀ i, i < len → ∃ q : Int × Value × List Int, w.cell? (ad.add (i * 2 + 0)) = some (.int .i64 q.1) ∧ w.cell? (ad.add (i * 2 + 1)) = some q.2.1 ∧ PickV w w.heap.size q.2.1 q.2.2 := by
      intro i hi
      obtain ⟨cs', hcs, ht⟩ := hx i (by omega)
      rw [show Tryz.prog.cellsOf 41 = 2 by kernel_rfl] at hcs
      obtain ⟨ys, n', _, hxx, hlen, hyl, hf⟩ := DataW.trod_struct Tryz.underlying41 ht
      rw [show Tryz.prog.cellsOf 41 = 2 by kernel_rfl] at hlen
      obtain ⟨_, _, hat⟩ := World.cells?_some hcs
      match ys, hyl with
      | [y0, y1], _ =>
        have f0 : DataW.trod enc Tryz.prog w base spare held n' 3 ((cs'.drop 0).take (Tryz.prog.cellsOf 3)) = some y0 := hf 0 _ rfl
        have f1 : DataW.trod enc Tryz.prog w base spare held n' 22 ((cs'.drop 1).take (Tryz.prog.cellsOf 22)) = some y1 := hf 1 _ rfl
        rw [cellsI] at f0
        rw [show Tryz.prog.cellsOf 22 = 1 from by kernel_rfl] at f1
        have hw1 : ∀ n ∈ y1.1.weights Tryz.prog 22, n ≤ reachBytes := fun n hn => hsz n (by
          rw [hd1]
          simp only [DataW.weights, Tryz.underlying23]
          refine List.mem_cons_of_mem _ (List.mem_append_left _ (weights_mem (i := i) (d := D i) (by rw [List.getElem?_map, List.getElem?_range hi]; rfl) n ?_))
          rw [(Prod.mk.inj hxx).1]
          simp only [DataW.weights, Tryz.underlying41, List.map, DataW.weightsEach, List.mem_append]
          exact Or.inr (Or.inl hn))
        match cs', hlen with
        | [c0, c1], _ =>
          obtain ⟨n0, e0, _, w0⟩ := DataW.trod_int Tryz.underlying3 f0
          obtain rfl : c0 = .int .i64 n0 := by simpa using e0
          obtain ⟨l, hl⟩ := picks_open (v := c1) hs hw1 f1
          have a0 := hat 0 (by omega)
          have a1 := hat 1 (by omega)
          rw [add_add] at a0 a1
          exact ⟨(n0, c1, l), a0, a1, hl⟩
    let A : List (Int × Value × List Int) := (List.range len).map fun i => if hi : i < len then (each i hi).choose else (0, .nilFunc, [])
    have hAl : A.length = len := by simp [A]
    refine ⟨A, hAl.symm, by omega, fun hne => ?_⟩
    have h0 : 0 < len := by
      rcases Nat.eq_zero_or_pos len with e | e
      · exact absurd (List.eq_nil_of_length_eq_zero (hAl.trans e)) hne
      · exact e
    obtain ⟨q0, p0, _⟩ := each 0 h0
    rw [Nat.zero_mul] at p0
    obtain ⟨p1, p2⟩ := addr_of_cell p0
    refine ⟨ad.block, ad.off, by rw [← p1], p2, fun i q hi => ?_⟩
    have hi' : i < len := by
      have := (List.getElem?_eq_some_iff.1 hi).1
      omega
    have hq : q = (each i hi').choose := by
      have h2 : A[i]? = some ((each i hi').choose) := by
        simp only [A, List.getElem?_map, List.getElem?_range hi', Option.map_some, dif_pos hi']
      rw [h2] at hi
      exact (Option.some.inj hi).symm
    rw [hq]
    obtain ⟨b0, b1, b2⟩ := (each i hi').choose_spec
    exact ⟨cell_add p1 b0, cell_add p1 b1, b2⟩
end
end Go.Proofs.YtflapnbpaodhaaaGreatDoor.cu
