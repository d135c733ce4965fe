/-
  Names that come in.
-/
import Derived.Test.YtppkmfhlmmlckaaNmC
namespace Go.Proofs.Ytppkmfhlmmlckaa.nm
set_option maxRecDepth 100000
open Go.RowKit Go.Maps Go.ChangeShapes Go.WideShapes Go.Deep
set_option maxRecDepth 100000

section
variable {H : Type} {enc : TypeId × Value → H} {w : World} {base : Nat} {spare : Nat → Bool} {held : Bool}
theorem namesIn_open {a : Option Addr} {len cap : Nat} {d : DataW H} {ps : List MemPlace} (hs : ∀ b, spare b = true) (hsz : ∀ n ∈ d.weights Try.prog 23, n ≤ reachBytes) (h : DataW.Trod enc Try.prog w base spare held 23 (.slice a len cap) d ps) :
    ∃ l : List Nm, len = l.length ∧ RdN w w.heap.size a l ∧ (a = none → cap = 0) ∧ l.length ≤ cap ∧ l.length ≤ 5864062014805 := by
  obtain ⟨fuel, hf⟩ := h
  have hf' : DataW.trod enc Try.prog w base spare held fuel 23 [.slice a len cap] = some (d, ps) := hf
  rcases open_slice Try.underlying23 hf' with ⟨hc, _⟩ | ⟨ad, ln, cp, m, n, D, Pl, hc, _, hl, hm, hmm, hd, hx⟩
  · simp only [List.cons.injEq, Value.slice.injEq, and_true] at hc
    obtain ⟨rfl, rfl, rfl⟩ := hc
    exact ⟨[], rfl, RdN.nil _ _ _, fun _ => rfl, by simp, by simp⟩
  · simp only [List.cons.injEq, Value.slice.injEq, and_true] at hc
    obtain ⟨rfl, rfl, rfl⟩ := hc
    rw [if_pos (hs _)] at hmm
    have hd1 : d = .slice (List.map D (List.range len)) (List.map (fun j => D (len + j)) (List.range (m - len))) := (Prod.mk.inj hd).1
    have hlenb : len ≤ 5864062014805 := by
      have h := hsz ((len + (m - len)) * Try.prog.bytesOf 41) (by rw [hd1]; simp only [DataW.weights, Try.underlying23, List.length_map, List.length_range]; exact List.mem_cons_self)
      rw [show Try.prog.bytesOf 41 = 24 by kernel_rfl] at h
      simp only [reachBytes] at h
      omega
    have each : ∀ i, i < len → ∃ q : Nm, w.cell? (ad.add (i * 2 + 0)) = some (.string q.1) ∧ w.cell? (ad.add (i * 2 + 1)) = some (.int .i64 q.2) ∧ q.1.size ≤ maxLen ∧ -9223372036854775808 ≤ q.2 ∧ q.2 ≤ 9223372036854775807 := by
      intro i hi
      obtain ⟨cs', hcs, ht⟩ := hx i (by omega)
      rw [show Try.prog.cellsOf 41 = 2 by kernel_rfl] at hcs
      obtain ⟨ys, n', _, hxx, hlen, hyl, hf⟩ := DataW.trod_struct Try.underlying41 ht
      rw [show Try.prog.cellsOf 41 = 2 by kernel_rfl] at hlen
      obtain ⟨_, _, hat⟩ := World.cells?_some hcs
      match ys, hyl with
      | [y0, y1], _ =>
        have f0 : DataW.trod enc Try.prog w base spare held n' 9 ((cs'.drop 0).take (Try.prog.cellsOf 9)) = some y0 := hf 0 _ rfl
        have f1 : DataW.trod enc Try.prog w base spare held n' 3 ((cs'.drop 1).take (Try.prog.cellsOf 3)) = some y1 := hf 1 _ rfl
        rw [show Try.prog.cellsOf 9 = 1 from by kernel_rfl] at f0
        rw [show Try.prog.cellsOf 3 = 1 from by kernel_rfl] at f1
        match cs', hlen with
        | [c0, c1], _ =>
          obtain ⟨s, e0, _, w0⟩ := DataW.trod_string Try.underlying9 f0
          obtain ⟨n1, e1, _, w1⟩ := DataW.trod_int Try.underlying3 f1
          obtain rfl : c0 = .string s := by simpa using e0
          obtain rfl : c1 = .int .i64 n1 := by simpa using e1
          have a0 := hat 0 (by omega)
          have a1 := hat 1 (by omega)
          rw [add_add] at a0 a1
          have hb := bounds_i64 w1
          exact ⟨(s, n1), a0, a1, w0, by simpa using hb⟩
    let A : List Nm := (List.range len).map fun i => if hi : i < len then (each i hi).choose else (⟨#[]⟩, 0)
    have hAl : A.length = len := by simp [A]
    have hget : ∀ i q, A[i]? = some q → ∃ hi' : i < len, q = (each i hi').choose := fun i q hi => by
      have hi' : i < len := by
        have := (List.getElem?_eq_some_iff.1 hi).1
        omega
      refine ⟨hi', ?_⟩
      have h2 : A[i]? = some ((each i hi').choose) := by
        simp only [A, List.getElem?_map, List.getElem?_range hi', Option.map_some, dif_pos hi']
      rw [h2] at hi
      exact (Option.some.inj hi).symm
    refine ⟨A, hAl.symm, ⟨fun hne => ?_, fun q hq => ?_⟩, (fun e => by cases e), by omega, by omega⟩
    · have h0 : 0 < len := by
        rcases Nat.eq_zero_or_pos len with e | e
        · exact absurd (List.eq_nil_of_length_eq_zero (hAl.trans e)) hne
        · exact e
      obtain ⟨q0, p0, _⟩ := each 0 h0
      rw [Nat.zero_mul] at p0
      obtain ⟨p1, p2⟩ := addr_of_cell p0
      refine ⟨ad.block, ad.off, by rw [← p1], p2, fun i q hi => ?_⟩
      obtain ⟨hi', hq⟩ := hget i q hi
      rw [hq]
      obtain ⟨b0, b1, _⟩ := (each i hi').choose_spec
      exact ⟨cell_add p1 b0, cell_add p1 b1⟩
    · obtain ⟨i, hi⟩ := List.mem_iff_getElem?.1 hq
      obtain ⟨hi', hq⟩ := hget i q hi
      rw [hq]
      exact (each i hi').choose_spec.2.2
end
end Go.Proofs.Ytppkmfhlmmlckaa.nm
