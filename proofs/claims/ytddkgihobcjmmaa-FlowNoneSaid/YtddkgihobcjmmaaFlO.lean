/-
  Calls that come in, opened.
-/
import Derived.Test.YtddkgihobcjmmaaFlH
import Derived.Deep.Slices
import Derived.ChangeArms
import Derived.ChangeSlices
import Derived.OpenShut
import Derived.SizedLaws
import Derived.Lib.SmallJoins
namespace Go.Proofs.Ytddkgihobcjmmaa.fl
set_option maxRecDepth 100000
open Go.Joins Go.RowKit Go.Maps Go.ChangeShapes Go.WideShapes Go.Deep

theorem cellsAct : Try.prog.cellsOf 33 = 4 := by kernel_rfl
theorem bytesAct : Try.prog.bytesOf 33 = 48 := by kernel_rfl
theorem cellsInt : Try.prog.cellsOf 3 = 1 := by kernel_rfl
theorem list4 {α : Type} : ∀ {l : List α}, l.length = 4 → ∃ a b c d, l = [a, b, c, d]
  | [a, b, c, d], _ => ⟨a, b, c, d, rfl⟩
/-- A call, by the row's first address. -/
structure ActRaw (w : World) (ad : Addr) (i : Nat) (a : AF) : Prop where
  c0 : w.cell? (ad.add (i * 4 + 0)) = some (.int .i64 a.do_)
  c1 : w.cell? (ad.add (i * 4 + 1)) = some (.int .i64 a.n)
  c2 : w.cell? (ad.add (i * 4 + 2)) = some (.int .i64 a.bits)
  c3 : w.cell? (ad.add (i * 4 + 3)) = some (.slice a.A a.d.length a.cap)
  ok : AFok w w.heap.size a
theorem weights_mem {H : Type} {P : Program} {e : TypeId} : ∀ {l : List (DataW H)} {i : Nat} {d : DataW H}, l[i]? = some d → ∀ n ∈ d.weights P e, n ∈ DataW.weightsAll P e l
  | [], _, _, h, _, _ => by simp at h
  | x :: l, 0, d, h, n, hn => by
    simp only [List.getElem?_cons_zero, Option.some.injEq] at h
    subst h
    simp only [DataW.weightsAll, List.mem_append]
    exact Or.inl hn
  | x :: l, i + 1, d, h, n, hn => by
    rw [List.getElem?_cons_succ] at h
    simp only [DataW.weightsAll, List.mem_append]
    exact Or.inr (weights_mem h n hn)
section
variable {H : Type} {enc : TypeId × Value → H} {w : World} {base : Nat} {spare : Nat → Bool} {held : Bool}
/-- A cell with bytes, opened. -/
theorem bytes_cell {n' : Nat} {c3 : Value} {y3 : DataW H × List MemPlace} (hs : ∀ b, spare b = true) (hw3 : ∀ n ∈ y3.1.weights Try.prog 22, n ≤ reachBytes) (f3 : DataW.trod enc Try.prog w base spare held n' 22 [c3] = some y3) :
    ∃ (A : Option Addr) (cap : Nat) (l : List UInt8), c3 = .slice A l.length cap ∧ Rd w w.heap.size A l ∧ (A = none → cap = 0) ∧ l.length ≤ cap ∧ l.length ≤ 140737488351232 := by
  rcases open_ints Try.underlying22 Try.underlying5 cellsU f3 with ⟨hc, _⟩ | ⟨ad3, ln, cp, zs, hc, _, hl3, hm3, hz, hx3, hcell, hwf⟩
  · simp only [List.cons.injEq, and_true] at hc
    subst hc
    exact ⟨none, 0, [], rfl, Rd.nil _ _ _, fun _ => rfl, Nat.le_refl _, by simp⟩
  · simp only [List.cons.injEq, and_true] at hc
    subst hc
    rw [if_pos (hs _)] at hz
    have hreach := hw3 ((zs.take ln).length * 1 + (zs.drop ln).length * 1) (by
      rw [(Prod.mk.inj hx3).1]
      simp only [DataW.weights, Try.underlying22, lits, List.length_map]
      rw [bytesU, Nat.add_mul]
      exact List.mem_cons_self)
    rw [List.length_take, List.length_drop] at hreach
    simp only [reachBytes] at hreach
    have hlen3 : ((zs.take ln).map fun z => UInt8.ofNat z.toNat).length = ln := by rw [List.length_map, List.length_take]; omega
    refine ⟨some ad3, cp, (zs.take ln).map fun z => UInt8.ofNat z.toNat, by rw [hlen3], fun hne => ?_, (fun e => by cases e), by rw [hlen3]; exact hl3, by rw [hlen3]; omega⟩
    have h0 : 0 < ln := by
      rcases Nat.eq_zero_or_pos ln with e | e
      · exact absurd (List.eq_nil_of_length_eq_zero (hlen3.trans e)) hne
      · exact e
    obtain ⟨e1, e2⟩ := addr_of_cell (hcell 0 (by omega))
    refine ⟨ad3.block, ad3.off, by rw [← e1], e2, fun j x hj => ?_⟩
    have hj2 := (List.getElem?_eq_some_iff.1 hj).1
    have hj' : j < ln := by omega
    rw [List.getElem?_map, List.getElem?_take_of_lt hj'] at hj
    obtain ⟨z, hz1, rfl⟩ := Option.map_eq_some_iff.1 hj
    have h1 := cell_add e1 (hcell j (by omega))
    rw [List.getD_eq_getElem?_getD, hz1] at h1
    have hw := hwf z (List.mem_of_getElem? hz1)
    have hb : 0 ≤ z ∧ z ≤ 255 := by simpa using bounds_u8 hw
    rw [h1]
    have hn : ((UInt8.ofNat z.toNat).toNat : Int) = z := by
      rw [UInt8.toNat_ofNat']
      omega
    rw [hn]
    rfl
/-- One call, by value. -/
theorem act_open9 {r : Reach} {b0 : Nat} {v : Value} {d : DataW H} {p : List MemPlace} (hs : ∀ b, spare b = true) (hw : ∀ k ∈ d.weights Try.prog 33, k ≤ reachBytes) (hv : Value.okWide Try.prog w r b0 33 v) (h : DataW.Trod enc Try.prog w base spare held 33 v d p) :
    ∃ x : AF, v = .agg #[.int .i64 x.do_, .int .i64 x.n, .int .i64 x.bits, .slice x.A x.d.length x.cap] ∧ AFok w w.heap.size x := by
  obtain ⟨v0, v1, v2, v3, y0, y1, y2, y3, n, rfl, rfl, rfl, f0, f1, f2, f3⟩ := open_agg4 Try.underlying33 (by kernel_rfl) (by kernel_rfl) hv h
  obtain ⟨n0, e0, _, w0⟩ := DataW.trod_int Try.underlying3 f0
  obtain ⟨n1, e1, _, w1⟩ := DataW.trod_int Try.underlying3 f1
  obtain ⟨n2, e2, _, w2⟩ := DataW.trod_int Try.underlying3 f2
  obtain rfl : v0 = .int .i64 n0 := by simpa using e0
  obtain rfl : v1 = .int .i64 n1 := by simpa using e1
  obtain rfl : v2 = .int .i64 n2 := by simpa using e2
  obtain ⟨A, cap, l, rfl, hr, hA, hc, hl⟩ := bytes_cell hs (fun k hk => hw k (by
    simp only [DataW.weights, Try.underlying33, List.map, DataW.weightsEach, List.mem_append]
    exact Or.inr (Or.inr (Or.inr (Or.inl hk))))) f3
  exact ⟨⟨n0, n1, n2, A, cap, l⟩, rfl, by have := bounds_i64 w1; simpa [Big] using this, by have := bounds_i64 w2; simpa [Big] using this, hr, hA, hc, hl⟩
theorem actsF_open {a : Option Addr} {len cap : Nat} {d : DataW H} {ps : List MemPlace} (hs : ∀ b, spare b = true) (hsz : ∀ n ∈ d.weights Try.prog 23, n ≤ reachBytes) (h : DataW.Trod enc Try.prog w base spare held 23 (.slice a len cap) d ps) : ∃ l : List AF, len = l.length ∧ ActsF w w.heap.size a l := by
  obtain ⟨fuel, hf⟩ := h
  have hf' : DataW.trod enc Try.prog w base spare held fuel 23 [.slice a len cap] = some (d, ps) := hf
  rcases open_slice Try.underlying23 hf' with ⟨hc, _⟩ | ⟨ad, ln, cp, m, n, D, Pl, hc, _, hl, hm, hmm, hd, hx⟩
  · simp only [List.cons.injEq, Value.slice.injEq, and_true] at hc
    obtain ⟨rfl, rfl, rfl⟩ := hc
    exact ⟨[], rfl, ⟨fun h => absurd rfl h, fun x hx => by simp at hx, by simp⟩⟩
  · simp only [List.cons.injEq, Value.slice.injEq, and_true] at hc
    obtain ⟨rfl, rfl, rfl⟩ := hc
    rw [if_pos (hs _)] at hmm
    have hd1 : d = .slice (List.map D (List.range len)) (List.map (fun j => D (len + j)) (List.range (m - len))) := (Prod.mk.inj hd).1
    have hlenb : len ≤ 9223372036854775807 := by
      have h := hsz ((len + (m - len)) * Try.prog.bytesOf 33) (by rw [hd1]; simp only [DataW.weights, Try.underlying23, List.length_map, List.length_range]; exact List.mem_cons_self)
      rw [bytesAct] at h
      simp only [reachBytes] at h
      omega
    have each : ∀ i, i < len → ∃ q : AF, ActRaw w ad i q := by
      intro i hi
      obtain ⟨cs', hcs, ht⟩ := hx i (by omega)
      rw [cellsAct] at hcs
      obtain ⟨ys, n', _, hxx, hlen, hyl, hf⟩ := DataW.trod_struct Try.underlying33 ht
      rw [cellsAct] at hlen
      obtain ⟨_, _, hat⟩ := World.cells?_some hcs
      obtain ⟨y0, y1, y2, y3, rfl⟩ := list4 (hyl.trans (by rfl))
      have f0 : DataW.trod enc Try.prog w base spare held n' 3 ((cs'.drop 0).take (Try.prog.cellsOf 3)) = some y0 := hf 0 _ rfl
      have f1 : DataW.trod enc Try.prog w base spare held n' 3 ((cs'.drop 1).take (Try.prog.cellsOf 3)) = some y1 := hf 1 _ rfl
      have f2 : DataW.trod enc Try.prog w base spare held n' 3 ((cs'.drop 2).take (Try.prog.cellsOf 3)) = some y2 := hf 2 _ rfl
      have f3 : DataW.trod enc Try.prog w base spare held n' 22 ((cs'.drop 3).take (Try.prog.cellsOf 22)) = some y3 := hf 3 _ rfl
      rw [cellsInt] at f0 f1 f2
      rw [show Try.prog.cellsOf 22 = 1 from by kernel_rfl] at f3
      have hw3 : ∀ n ∈ y3.1.weights Try.prog 22, n ≤ reachBytes := fun n hn => hsz n (by
        rw [hd1]
        simp only [DataW.weights, Try.underlying23]
        refine List.mem_cons_of_mem _ (List.mem_append_left _ (weights_mem (i := i) (d := D i) (by rw [List.getElem?_map, List.getElem?_range hi]; rfl) n ?_))
        rw [(Prod.mk.inj hxx).1]
        simp only [DataW.weights, Try.underlying33, List.map, DataW.weightsEach, List.mem_append]
        exact Or.inr (Or.inr (Or.inr (Or.inl hn))))
      obtain ⟨c0, c1, c2, c3, rfl⟩ := list4 hlen
      obtain ⟨n0, e0, _, w0⟩ := DataW.trod_int Try.underlying3 f0
      obtain ⟨n1, e1, _, w1⟩ := DataW.trod_int Try.underlying3 f1
      obtain ⟨n2, e2, _, w2⟩ := DataW.trod_int Try.underlying3 f2
      obtain rfl : c0 = .int .i64 n0 := by simpa using e0
      obtain rfl : c1 = .int .i64 n1 := by simpa using e1
      obtain rfl : c2 = .int .i64 n2 := by simpa using e2
      have a0 := hat 0 (by omega)
      have a1 := hat 1 (by omega)
      have a2 := hat 2 (by omega)
      have a3 := hat 3 (by omega)
      rw [add_add] at a0 a1 a2 a3
      have b1 : Big n1 := by have := bounds_i64 w1; simpa [Big] using this
      have b2 : Big n2 := by have := bounds_i64 w2; simpa [Big] using this
      simp only [List.drop_succ_cons, List.drop_zero, List.take_succ_cons, List.take_zero] at f3
      obtain ⟨A3, cp3, l3, rfl, hr3, hA3, hc3, hl3⟩ := bytes_cell hs hw3 f3
      exact ⟨⟨n0, n1, n2, A3, cp3, l3⟩, a0, a1, a2, a3, b1, b2, hr3, hA3, hc3, hl3⟩
    let A : List AF := (List.range len).map fun i => if hi : i < len then (each i hi).choose else ⟨0, 0, 0, none, 0, []⟩
    have hAl : A.length = len := by simp [A]
    have hq : ∀ i q, A[i]? = some q → ActRaw w ad i q := by
      intro i q hi
      have hi' : i < len := by
        have := (List.getElem?_eq_some_iff.1 hi).1
        omega
      have h2 : A[i]? = some ((each i hi').choose) := by
        simp only [A, List.getElem?_map, List.getElem?_range hi', Option.map_some, dif_pos hi']
      rw [h2] at hi
      rw [← Option.some.inj hi]
      exact (each i hi').choose_spec
    refine ⟨A, hAl.symm, ⟨fun hne => ?_, fun x hx => ?_, by omega⟩⟩
    · have h0 : 0 < len := by
        rcases Nat.eq_zero_or_pos len with e | e
        · exact absurd (List.eq_nil_of_length_eq_zero (hAl.trans e)) hne
        · exact e
      obtain ⟨q0, hq0⟩ := each 0 h0
      have p0 := hq0.c0
      rw [Nat.zero_mul] at p0
      obtain ⟨p1, p2⟩ := addr_of_cell p0
      refine ⟨ad.block, ad.off, by rw [← p1], p2, fun i q hi => ?_⟩
      have hr := hq i q hi
      exact ⟨cell_add p1 hr.c0, cell_add p1 hr.c1, cell_add p1 hr.c2, cell_add p1 hr.c3⟩
    · obtain ⟨i, hi⟩ := List.getElem?_of_mem hx
      exact (hq i x hi).ok
end
end Go.Proofs.Ytddkgihobcjmmaa.fl
