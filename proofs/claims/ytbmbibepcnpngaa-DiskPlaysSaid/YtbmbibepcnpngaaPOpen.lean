/-
  What comes into DiskPlays: calls, whole, with their picks.
-/
import Derived.Test.YtbmbibepcnpngaaOpen
import Derived.SizedLaws
namespace Go.Proofs.Ytbmbibepcnpngaa.play
open Go.RowKit Go.Maps Go.ChangeShapes Go.WideShapes Go.Deep

/-- A call, whole. -/
structure ActP where
  what : Int
  where_ : Int
  num : Int
  fill : UInt8
  pa : Option Addr
  pc : Nat
  picks : List Int
/-- .. as it lies in memory; its picks below block B. -/
structure ActAt (w : World) (B blk off : Nat) (a : ActP) : Prop where
  c0 : w.cell? ⟨blk, off, none⟩ = some (.int .i64 a.what)
  c1 : w.cell? ⟨blk, off + 1, none⟩ = some (.int .i64 a.where_)
  c2 : w.cell? ⟨blk, off + 2, none⟩ = some (.int .i64 a.num)
  c3 : w.cell? ⟨blk, off + 3, none⟩ = some (.int .u8 (a.fill.toNat : Int))
  c4 : w.cell? ⟨blk, off + 4, none⟩ = some (.slice a.pa a.picks.length a.pc)
  rd : RdI w B a.pa a.picks
  nn : a.pa = none → a.pc = 0
  len : a.picks.length ≤ 17592186044416
  wi : I64 a.where_
  ni : I64 a.num
theorem ActAt.kept {w w' : World} {B blk off : Nat} {a : ActP} (h : ActAt w B blk off a) (hF : Fr (fun _ => False) w w') (hB : B ≤ w.heap.size) (hb : blk < w.heap.size) : ActAt w' B blk off a := by
  have k : ∀ o v, w.cell? ⟨blk, o, none⟩ = some v → w'.cell? ⟨blk, o, none⟩ = some v := fun o v hv => (World.cell?_of_block (w := w) (w' := w') (a := ⟨blk, o, none⟩) (hF.block blk hb id)).trans hv
  exact ⟨k _ _ h.c0, k _ _ h.c1, k _ _ h.c2, k _ _ h.c3, k _ _ h.c4, h.rd.still hF hB, h.nn, h.len, h.wi, h.ni⟩
/-- The calls, in a row. -/
def ActsP (w : World) (B : Nat) (A : Option Addr) (l : List ActP) : Prop := l ≠ [] → ∃ blk off, A = some ⟨blk, off, none⟩ ∧ blk < B ∧ ∀ i a, l[i]? = some a → ActAt w B blk (off + i * 5) a
theorem ActsP.kept {w w' : World} {B : Nat} {A : Option Addr} {l : List ActP} (h : ActsP w B A l) (hF : Fr (fun _ => False) w w') (hB : B ≤ w.heap.size) : ActsP w' B A l := fun hne => by
  obtain ⟨blk, off, hp, hb, ha⟩ := h hne
  exact ⟨blk, off, hp, hb, fun i a hi => (ha i a hi).kept hF hB (by omega)⟩

/-- .. the same, by the row's first address. -/
structure ActRaw (w : World) (ad : Addr) (i : Nat) (a : ActP) : Prop where
  c0 : w.cell? (ad.add (i * 5 + 0)) = some (.int .i64 a.what)
  c1 : w.cell? (ad.add (i * 5 + 1)) = some (.int .i64 a.where_)
  c2 : w.cell? (ad.add (i * 5 + 2)) = some (.int .i64 a.num)
  c3 : w.cell? (ad.add (i * 5 + 3)) = some (.int .u8 (a.fill.toNat : Int))
  c4 : w.cell? (ad.add (i * 5 + 4)) = some (.slice a.pa a.picks.length a.pc)
  rd : RdI w w.heap.size a.pa a.picks
  nn : a.pa = none → a.pc = 0
  len : a.picks.length ≤ 17592186044416
  wi : I64 a.where_
  ni : I64 a.num

theorem bytesAct : Try.prog.bytesOf 36 = 56 := by kernel_rfl
theorem weights_mem {H : Type} {P : Program} {e : TypeId} : ∀ {l : List (DataW H)} {i : Nat} {d : DataW H}, l[i]? = some d → ∀ n ∈ d.weights P e, n ∈ DataW.weightsAll P e l
  | [], _, _, h, _, _ => by simp at h
  | x :: l, 0, d, h, n, hn => by
    simp only [List.getElem?_cons_zero, Option.some.injEq] at h
    subst h
    simp only [DataW.weightsAll, List.mem_append]
    exact Or.inl hn
  | x :: l, i + 1, d, h, n, hn => by
    rw [List.getElem?_cons_succ] at h
    simp only [DataW.weightsAll, List.mem_append]
    exact Or.inr (weights_mem h n hn)

section
variable {H : Type} {enc : TypeId × Value → H} {w : World} {base : Nat} {spare : Nat → Bool} {held : Bool}
theorem acts_openP {a : Option Addr} {len cap : Nat} {d : DataW H} {ps : List MemPlace} (hs : ∀ b, spare b = true) (hsz : ∀ n ∈ d.weights Try.prog 23, n ≤ reachBytes) (h : DataW.Trod enc Try.prog w base spare held 23 (.slice a len cap) d ps) : ∃ l : List ActP, l.length = len ∧ l.length ≤ 9223372036854775807 ∧ ActsP w w.heap.size a l := by
  obtain ⟨fuel, hf⟩ := h
  have hf' : DataW.trod enc Try.prog w base spare held fuel 23 [.slice a len cap] = some (d, ps) := hf
  rcases open_slice Try.underlying23 hf' with ⟨hc, _⟩ | ⟨ad, ln, cp, m, n, D, Pl, hc, _, hl, hm, hmm, hd, hx⟩
  · simp only [List.cons.injEq, Value.slice.injEq, and_true] at hc
    obtain ⟨rfl, rfl, rfl⟩ := hc
    exact ⟨[], rfl, by simp, fun h => absurd rfl h⟩
  · simp only [List.cons.injEq, Value.slice.injEq, and_true] at hc
    obtain ⟨rfl, rfl, rfl⟩ := hc
    rw [if_pos (hs _)] at hmm
    have hd1 : d = .slice (List.map D (List.range len)) (List.map (fun j => D (len + j)) (List.range (m - len))) := (Prod.mk.inj hd).1
    have hlenb : len ≤ 9223372036854775807 := by
      have h := hsz ((len + (m - len)) * Try.prog.bytesOf 36) (by rw [hd1]; simp only [DataW.weights, Try.underlying23, List.length_map, List.length_range]; exact List.mem_cons_self)
      rw [bytesAct] at h
      simp only [reachBytes] at h
      omega
    have each : ∀ i, i < len → ∃ q : ActP, ActRaw w ad i q := by
      intro i hi
      obtain ⟨cs', hcs, ht⟩ := hx i (by omega)
      rw [cellsAct] at hcs
      obtain ⟨ys, n', _, hxx, hlen, hyl, hf⟩ := DataW.trod_struct Try.underlying36 ht
      rw [cellsAct] at hlen
      obtain ⟨_, _, hat⟩ := World.cells?_some hcs
      obtain ⟨y0, y1, y2, y3, y4, rfl⟩ := list5 (hyl.trans (by rfl))
      have f0 : DataW.trod enc Try.prog w base spare held n' 3 ((cs'.drop 0).take (Try.prog.cellsOf 3)) = some y0 := hf 0 _ rfl
      have f1 : DataW.trod enc Try.prog w base spare held n' 3 ((cs'.drop 1).take (Try.prog.cellsOf 3)) = some y1 := hf 1 _ rfl
      have f2 : DataW.trod enc Try.prog w base spare held n' 3 ((cs'.drop 2).take (Try.prog.cellsOf 3)) = some y2 := hf 2 _ rfl
      have f3 : DataW.trod enc Try.prog w base spare held n' 5 ((cs'.drop 3).take (Try.prog.cellsOf 5)) = some y3 := hf 3 _ rfl
      have f4 : DataW.trod enc Try.prog w base spare held n' 34 ((cs'.drop 4).take (Try.prog.cellsOf 34)) = some y4 := hf 4 _ rfl
      rw [cellsI] at f0 f1 f2
      rw [cellsU] at f3
      rw [show Try.prog.cellsOf 34 = 1 from by kernel_rfl] at f4
      have hw4 : ∀ n ∈ y4.1.weights Try.prog 34, n ≤ reachBytes := fun n hn => hsz n (by
        rw [hd1]
        simp only [DataW.weights, Try.underlying23]
        refine List.mem_cons_of_mem _ (List.mem_append_left _ (weights_mem (i := i) (d := D i) (by rw [List.getElem?_map, List.getElem?_range hi]; rfl) n ?_))
        rw [(Prod.mk.inj hxx).1]
        simp only [DataW.weights, Try.underlying36, List.map, DataW.weightsEach, List.mem_append]
        exact Or.inr (Or.inr (Or.inr (Or.inr (Or.inl hn)))))
      obtain ⟨c0, c1, c2, c3, c4, rfl⟩ := list5 hlen
      obtain ⟨n0, e0, _, w0⟩ := DataW.trod_int Try.underlying3 f0
      obtain ⟨n1, e1, _, w1⟩ := DataW.trod_int Try.underlying3 f1
      obtain ⟨n2, e2, _, w2⟩ := DataW.trod_int Try.underlying3 f2
      obtain ⟨n3, e3, _, w3⟩ := DataW.trod_int Try.underlying5 f3
      obtain rfl : c0 = .int .i64 n0 := by simpa using e0
      obtain rfl : c1 = .int .i64 n1 := by simpa using e1
      obtain rfl : c2 = .int .i64 n2 := by simpa using e2
      obtain rfl : c3 = .int .u8 n3 := by simpa using e3
      have a0 := hat 0 (by omega)
      have a1 := hat 1 (by omega)
      have a2 := hat 2 (by omega)
      have a3 := hat 3 (by omega)
      have a4 := hat 4 (by omega)
      rw [add_add] at a0 a1 a2 a3 a4
      have hb := bounds_u8 w3
      have hn : ((UInt8.ofNat n3.toNat).toNat : Int) = n3 := by
        rw [UInt8.toNat_ofNat']
        omega
      have a3' : w.cell? (ad.add (i * 5 + 3)) = some (.int .u8 ((UInt8.ofNat n3.toNat).toNat : Int)) := by
        rw [a3, hn]
        rfl
      rcases open_ints Try.underlying34 Try.underlying3 cellsI f4 with ⟨hc, _⟩ | ⟨ad4, ln, cp, zs, hc, _, hl4, hm4, hz, hx4, hcell, hwf⟩
      · simp only [List.drop_succ_cons, List.drop_zero, List.take_succ_cons, List.take_zero, List.cons.injEq, and_true] at hc
        subst hc
        exact ⟨⟨n0, n1, n2, UInt8.ofNat n3.toNat, none, 0, []⟩, a0, a1, a2, a3', a4, RdI.nil _ _ _, fun _ => rfl, by simp, I64.of_wf w1, I64.of_wf w2⟩
      · simp only [List.drop_succ_cons, List.drop_zero, List.take_succ_cons, List.take_zero, List.cons.injEq, and_true] at hc
        subst hc
        rw [if_pos (hs _)] at hz
        have hreach := hw4 ((zs.take ln).length * 8 + (zs.drop ln).length * 8) (by
          rw [(Prod.mk.inj hx4).1]
          simp only [DataW.weights, Try.underlying34, lits, List.length_map]
          rw [bytesI, Nat.add_mul]
          exact List.mem_cons_self)
        rw [List.length_take, List.length_drop] at hreach
        simp only [reachBytes] at hreach
        have hlen4 : (zs.take ln).length = ln := by rw [List.length_take]; omega
        refine ⟨⟨n0, n1, n2, UInt8.ofNat n3.toNat, some ad4, cp, zs.take ln⟩, a0, a1, a2, a3', ?_, ⟨fun hne => ?_, fun x hx => ?_⟩, (fun e => by cases e), ?_, I64.of_wf w1, I64.of_wf w2⟩
        · show _ = some (Value.slice (some ad4) (zs.take ln).length cp)
          rw [hlen4]
          exact a4
        · have h0 : 0 < ln := by
            rcases Nat.eq_zero_or_pos ln with e | e
            · exact absurd (List.eq_nil_of_length_eq_zero (hlen4.trans e)) hne
            · exact e
          obtain ⟨e1, e2⟩ := addr_of_cell (hcell 0 (by omega))
          refine ⟨ad4.block, ad4.off, by rw [← e1], e2, fun j x hj => ?_⟩
          have hj2 := (List.getElem?_eq_some_iff.1 hj).1
          rw [show (ActP.mk n0 n1 n2 (UInt8.ofNat n3.toNat) (some ad4) cp (zs.take ln)).picks = zs.take ln from rfl] at hj hj2
          have hj' : j < ln := by omega
          rw [List.getElem?_take_of_lt hj'] at hj
          have h1 := cell_add e1 (hcell j (by omega))
          rw [List.getD_eq_getElem?_getD, hj] at h1
          exact h1
        · have hw := hwf x (List.mem_of_mem_take hx)
          simpa using bounds_i64 hw
        · show (zs.take ln).length ≤ _
          rw [hlen4]
          omega
    let A : List ActP := (List.range len).map fun i => if hi : i < len then (each i hi).choose else ⟨0, 0, 0, 0, none, 0, []⟩
    have hAl : A.length = len := by simp [A]
    refine ⟨A, hAl, by omega, fun hne => ?_⟩
    have h0 : 0 < len := by
      rcases Nat.eq_zero_or_pos len with e | e
      · exact absurd (List.eq_nil_of_length_eq_zero (hAl.trans e)) hne
      · exact e
    obtain ⟨q0, hq0⟩ := each 0 h0
    have p0 := hq0.c0
    rw [Nat.zero_mul] at p0
    obtain ⟨p1, p2⟩ := addr_of_cell p0
    refine ⟨ad.block, ad.off, by rw [← p1], p2, fun i q hi => ?_⟩
    have hi' : i < len := by
      have := (List.getElem?_eq_some_iff.1 hi).1
      omega
    have hq : q = (each i hi').choose := by
      have h2 : A[i]? = some ((each i hi').choose) := by
        simp only [A, List.getElem?_map, List.getElem?_range hi', Option.map_some, dif_pos hi']
      rw [h2] at hi
      exact (Option.some.inj hi).symm
    rw [hq]
    have hr := (each i hi').choose_spec
    exact ⟨cell_add p1 hr.c0, cell_add p1 hr.c1, cell_add p1 hr.c2, cell_add p1 hr.c3, cell_add p1 hr.c4, hr.rd, hr.nn, hr.len, hr.wi, hr.ni⟩
end
end Go.Proofs.Ytbmbibepcnpngaa.play
