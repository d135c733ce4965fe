/-
  What comes in: calls and picks, as lists.
-/
import Derived.Test.YtbmbibepcnpngaaDo
import Derived.Deep.Slices
import Derived.ChangeArms
import Derived.ChangeSlices
import Derived.OpenShut
namespace Go.Proofs.Ytbmbibepcnpngaa
open Go.RowKit Go.Maps Go.ChangeShapes Go.WideShapes Go.Deep

theorem cellsAct : Try.prog.cellsOf 36 = 5 := by kernel_rfl


theorem list5 {α : Type} : ∀ {l : List α}, l.length = 5 → ∃ a b c d e, l = [a, b, c, d, e]
  | [a, b, c, d, e], _ => ⟨a, b, c, d, e, rfl⟩

/-- A slice of calls that came in. -/
def ActsV (w : World) (v : Value) (A : List ActD) : Prop :=
  ∃ p cap, v = .slice p A.length cap ∧ A.length ≤ 9223372036854775807 ∧ (A ≠ [] → ∃ blk off, p = some ⟨blk, off, none⟩ ∧ blk < w.heap.size ∧ ActsAt w blk off A)

/-- A slice of numbers that came in. -/
def IntsV (w : World) (v : Value) (L : List Int) : Prop :=
  ∃ p cap, v = .slice p L.length cap ∧ L.length ≤ 9223372036854775807 ∧ (L ≠ [] → ∃ blk off, p = some ⟨blk, off, none⟩ ∧ blk < w.heap.size ∧ ∀ j x, L[j]? = some x → w.cell? ⟨blk, off + j, none⟩ = some (.int .i64 x))

theorem ActsV.kept {w w' : World} {v : Value} {A : List ActD} (h : ActsV w v A) (hF : Fr (fun _ => False) w w') : ActsV w' v A := by
  obtain ⟨p, cap, hv, hl, ha⟩ := h
  refine ⟨p, cap, hv, hl, fun hne => ?_⟩
  obtain ⟨blk, off, hp, hb, hA⟩ := ha hne
  exact ⟨blk, off, hp, Nat.lt_of_lt_of_le hb hF.size, hA.kept (hF.block blk hb id)⟩

theorem IntsV.kept {w w' : World} {v : Value} {L : List Int} (h : IntsV w v L) (hF : Fr (fun _ => False) w w') : IntsV w' v L := by
  obtain ⟨p, cap, hv, hl, ha⟩ := h
  refine ⟨p, cap, hv, hl, fun hne => ?_⟩
  obtain ⟨blk, off, hp, hb, hA⟩ := ha hne
  exact ⟨blk, off, hp, Nat.lt_of_lt_of_le hb hF.size, fun j x hj => (World.cell?_of_block (w := w) (w' := w') (hF.block blk hb id)).trans (hA j x hj)⟩

/-- Numbers that came in ahead of the disk serve as picks. -/
theorem IntsV.picks {w0 w : World} {v : Value} {L : List Int} (h : IntsV w0 v L) (hF : Fr (fun _ => False) w0 w) {bv : Nat} (hb : w0.heap.size ≤ bv) : Picks w bv v L := by
  obtain ⟨p, cap, hv, hl, ha⟩ := h
  refine ⟨p, cap, hv, hl, fun hne => ?_⟩
  obtain ⟨blk, off, hp, hb', hA⟩ := ha hne
  exact ⟨blk, off, hp, Nat.lt_of_lt_of_le hb' hF.size, by omega, fun j x hj => (World.cell?_of_block (w := w0) (w' := w) (hF.block blk hb' id)).trans (hA j x hj)⟩

section
variable {H : Type} {enc : TypeId × Value → H} {w : World} {base : Nat} {spare : Nat → Bool} {held : Bool}

theorem intsV_open {a : Option Addr} {len cap : Nat} {d : DataW H} {ps : List MemPlace} (hs : ∀ b, spare b = true) (h : DataW.Trod enc Try.prog w base spare held 34 (.slice a len cap) d ps) : ∃ L : List Int, L.length = len ∧ IntsV w (.slice a len cap) L ∧ ∀ x ∈ L, I64 x := by
  obtain ⟨fuel, hf⟩ := h
  have hf' : DataW.trod enc Try.prog w base spare held fuel 34 [.slice a len cap] = some (d, ps) := hf
  rcases open_ints Try.underlying34 Try.underlying3 cellsI hf' with ⟨hc, _⟩ | ⟨ad, ln, cp, zs, hc, _, hl, hm, hz, _, hcell, hwf⟩
  · simp only [List.cons.injEq, Value.slice.injEq, and_true] at hc
    obtain ⟨rfl, rfl, rfl⟩ := hc
    exact ⟨[], rfl, ⟨none, 0, rfl, by simp, fun h => absurd rfl h⟩, by simp⟩
  · simp only [List.cons.injEq, Value.slice.injEq, and_true] at hc
    obtain ⟨rfl, rfl, rfl⟩ := hc
    rw [if_pos (hs _)] at hz
    have hlen : (zs.take len).length = len := by rw [List.length_take]; omega
    have hmx : len ≤ 9223372036854775807 := by unfold maxLen at hm; omega
    refine ⟨zs.take len, hlen, ⟨some ad, cap, by rw [hlen], by rw [hlen]; exact hmx, fun hne => ?_⟩, fun x hx => I64.of_wf (hwf x (List.mem_of_mem_take hx))⟩
    have h0 : 0 < len := by
      rcases Nat.eq_zero_or_pos len with e | e
      · exact absurd (List.eq_nil_of_length_eq_zero (hlen.trans e)) hne
      · exact e
    obtain ⟨e1, e2⟩ := addr_of_cell (hcell 0 (by omega))
    refine ⟨ad.block, ad.off, by rw [← e1], e2, fun j x hj => ?_⟩
    have hj' : j < len := by
      have := (List.getElem?_eq_some_iff.1 hj).1
      omega
    rw [List.getElem?_take_of_lt hj'] at hj
    have h1 := cell_add e1 (hcell j (by omega))
    rw [List.getD_eq_getElem?_getD, hj] at h1
    exact h1

theorem acts_open {a : Option Addr} {len cap : Nat} {d : DataW H} {ps : List MemPlace} (hs : ∀ b, spare b = true) (h : DataW.Trod enc Try.prog w base spare held 23 (.slice a len cap) d ps) : ∃ A : List ActD, A.length = len ∧ ActsV w (.slice a len cap) A := by
  obtain ⟨fuel, hf⟩ := h
  have hf' : DataW.trod enc Try.prog w base spare held fuel 23 [.slice a len cap] = some (d, ps) := hf
  rcases open_slice Try.underlying23 hf' with ⟨hc, _⟩ | ⟨ad, ln, cp, m, n, D, Pl, hc, _, hl, hm, hmm, _, hx⟩
  · simp only [List.cons.injEq, Value.slice.injEq, and_true] at hc
    obtain ⟨rfl, rfl, rfl⟩ := hc
    exact ⟨[], rfl, none, 0, rfl, by simp, fun h => absurd rfl h⟩
  · simp only [List.cons.injEq, Value.slice.injEq, and_true] at hc
    obtain ⟨rfl, rfl, rfl⟩ := hc
    rw [if_pos (hs _)] at hmm
    have each : ∀ i, i < len → ∃ q : ActD, w.cell? (ad.add (i * 5 + 0)) = some (.int .i64 q.what) ∧ w.cell? (ad.add (i * 5 + 1)) = some (.int .i64 q.where_) ∧ w.cell? (ad.add (i * 5 + 3)) = some (.int .u8 (q.fill.toNat : Int)) := by
      intro i hi
      obtain ⟨cs', hcs, ht⟩ := hx i (by omega)
      rw [cellsAct] at hcs
      obtain ⟨ys, n', _, _, hlen, hyl, hf⟩ := DataW.trod_struct Try.underlying36 ht
      rw [cellsAct] at hlen
      obtain ⟨_, _, hat⟩ := World.cells?_some hcs
      have f0 : DataW.trod enc Try.prog w base spare held n' 3 ((cs'.drop 0).take (Try.prog.cellsOf 3)) = ys[0]? := hf 0 _ rfl
      have f1 : DataW.trod enc Try.prog w base spare held n' 3 ((cs'.drop 1).take (Try.prog.cellsOf 3)) = ys[1]? := hf 1 _ rfl
      have f3 : DataW.trod enc Try.prog w base spare held n' 5 ((cs'.drop 3).take (Try.prog.cellsOf 5)) = ys[3]? := hf 3 _ rfl
      rw [cellsI] at f0 f1
      rw [cellsU] at f3
      obtain ⟨c0, c1, c2, c3, c4, rfl⟩ := list5 hlen
      have y0 : ∃ y, ys[0]? = some y := ⟨_, List.getElem?_eq_getElem (by rw [hyl]; simp)⟩
      have y1 : ∃ y, ys[1]? = some y := ⟨_, List.getElem?_eq_getElem (by rw [hyl]; simp)⟩
      have y3 : ∃ y, ys[3]? = some y := ⟨_, List.getElem?_eq_getElem (by rw [hyl]; simp)⟩
      obtain ⟨y0, hy0⟩ := y0
      obtain ⟨y1, hy1⟩ := y1
      obtain ⟨y3, hy3⟩ := y3
      rw [hy0] at f0
      rw [hy1] at f1
      rw [hy3] at f3
      obtain ⟨n0, e0, _, w0⟩ := DataW.trod_int Try.underlying3 f0
      obtain ⟨n1, e1, _, w1⟩ := DataW.trod_int Try.underlying3 f1
      obtain ⟨n3, e3, _, w3⟩ := DataW.trod_int Try.underlying5 f3
      obtain rfl : c0 = .int .i64 n0 := by simpa using e0
      obtain rfl : c1 = .int .i64 n1 := by simpa using e1
      obtain rfl : c3 = .int .u8 n3 := by simpa using e3
      have a0 := hat 0 (by omega)
      have a1 := hat 1 (by omega)
      have a3 := hat 3 (by omega)
      rw [add_add] at a0 a1 a3
      have hb := bounds_u8 w3
      have hn : ((UInt8.ofNat n3.toNat).toNat : Int) = n3 := by
        rw [UInt8.toNat_ofNat']
        omega
      exact ⟨⟨n0, n1, UInt8.ofNat n3.toNat⟩, a0, a1, by rw [a3]; show _ = some (Value.int IntKind.u8 ((UInt8.ofNat n3.toNat).toNat : Int)); rw [hn]; rfl⟩
    have hmx : len ≤ 9223372036854775807 := by unfold maxLen at hm; omega
    let A : List ActD := (List.range len).map fun i => if hi : i < len then (each i hi).choose else ⟨0, 0, 0⟩
    have hAl : A.length = len := by simp [A]
    refine ⟨A, hAl, some ad, cap, by rw [hAl], by rw [hAl]; exact hmx, fun hne => ?_⟩
    have h0 : 0 < len := by
      rcases Nat.eq_zero_or_pos len with e | e
      · exact absurd (List.eq_nil_of_length_eq_zero (hAl.trans e)) hne
      · exact e
    obtain ⟨q0, p0, _⟩ := each 0 h0
    rw [Nat.zero_mul] at p0
    obtain ⟨p1, p2⟩ := addr_of_cell p0
    refine ⟨ad.block, ad.off, by rw [← p1], p2, fun i q hi => ?_⟩
    have hi' : i < len := by
      have := (List.getElem?_eq_some_iff.1 hi).1
      omega
    have hq : q = (each i hi').choose := by
      have h2 : A[i]? = some ((each i hi').choose) := by
        simp only [A, List.getElem?_map, List.getElem?_range hi', Option.map_some, dif_pos hi']
      rw [h2] at hi
      exact (Option.some.inj hi).symm
    rw [hq]
    obtain ⟨q0, q1, q3⟩ := (each i hi').choose_spec
    have r0 := cell_add p1 q0
    have r1 := cell_add p1 q1
    have r3 := cell_add p1 q3
    exact ⟨r0, r1, r3⟩

end

/-- do, of whatever calls. -/
theorem do_acts (w : World) {pb bv bt N B c : Nat} {ops : Int} {V : Int → Int → List UInt8} {T : Int → Int} (hg : Good w pb bv bt N B c ops (-1) false V T) (hB : B + 400 ≤ 100000000) (hN : N ≤ 1000)
    (v : Value) (A : List ActD) (hA : ActsV w v A) (hne : A ≠ [] → ∀ blk, blk < w.heap.size → ∀ off cap, v = .slice (some ⟨blk, off, none⟩) A.length cap → blk ≠ pb ∧ blk ≠ bv ∧ blk ≠ bt) :
    Calls Try.prog 38 #[.pointer (some ⟨pb, 0, none⟩), v] w fun e w' => e = .returned (.tuple #[]) ∧ DoAt w pb bv bt N (B + 400) ((Mo.of V T).acts N (A.take 200)) w' := by
  obtain ⟨p, cap, rfl, hl, ha⟩ := hA
  by_cases he : A = []
  · subst he
    have HF : Hid (DoAt w pb bv bt N (B + 400) ((Mo.of V T).acts N (([] : List ActD).take 200)) w) := ⟨⟨bt, c, ops, V, T, hg.big (by omega) hB, Or.inl rfl, fun _ _ => ⟨rfl, rfl⟩⟩, Fr.refl _ _⟩
    clear hg ha hne
    go_enter Try.func38, Try.ntmps38
    go_wp2_with fail
    refine wp_loop_rounds 1 ?_
    rw [rounds_succ]
    go_wp2
    go_end0
    exact ⟨rfl, HF.out⟩
  · obtain ⟨blk, off, rfl, hb, hA⟩ := ha he
    obtain ⟨n1, n2, n3⟩ := hne he blk hb off cap rfl
    exact do_any w hg hB hN blk off cap A hA hb n1 n2 n3 hl

end Go.Proofs.Ytbmbibepcnpngaa
