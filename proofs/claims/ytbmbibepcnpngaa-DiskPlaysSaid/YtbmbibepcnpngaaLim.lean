/-
  A disk with a limit, as DiskLimit meets it.
-/
import Derived.Test.YtbmbibepcnpngaaOpen
import Derived.Test.YtbmbibepcnpngaaDSynced
namespace Go.Proofs.Ytbmbibepcnpngaa
open Go.RowKit Go.Maps Go.ChangeShapes Go.WideShapes Go.Deep

section
variable {w : World} {pb bv bt N B c : Nat} {ops lim : Int} {dk : Bool} {V : Int → Int → List UInt8} {T : Int → Int}

/-- The disk's own cells anew. -/
theorem Good.turned (h : Good w pb bv bt N B c ops lim dk V T) {w' : World} {ops' lim' : Int} {dk' : Bool} (hb : Blk w' pb N bv bt ops' lim' dk') (hF : Fr (· = pb) w w') (ho : 0 ≤ ops' ∧ ops' ≤ B) (hl : -1 ≤ lim' ∧ lim' ≤ 9223372036854775807) : Good w' pb bv bt N B c ops' lim' dk' V T := by
  obtain ⟨nv, nt, hd, a, b⟩ := h.disk
  exact ⟨⟨nv, nt, ⟨hb, hd.sec.kept hF (hd.sec.ne_blk hd.blk), hd.turn.kept hF (hd.turn.ne_blk hd.blk), hd.ne⟩, a, b⟩, h.n0, h.n1, h.small, h.turns, h.out, ho.1, ho.2, hl.1, hl.2⟩

theorem limit_good (h : Good w pb bv bt N B c ops lim dk V T) (n : Nat) (hn : n ≤ 1000) :
    Calls Try.prog 23 #[.pointer (some ⟨pb, 0, none⟩), .int .i64 n] w fun e w' => e = .returned (.tuple #[]) ∧ Good w' pb bv bt N B c ops n dk V T ∧ Fr (· = pb) w w' := by
  obtain ⟨nv, nt, hd, ha, hb⟩ := h.disk
  have hn0 := h.n0
  refine (limit_any _ hd.blk (by omega) n).mono ?_
  rintro e w' ⟨rfl, h1, h2, _⟩
  have hm : max (n : Int) (-1) = n := by omega
  rw [hm] at h1
  exact ⟨rfl, h.turned h1 h2 ⟨h.ops0, h.ops1⟩ ⟨by omega, by omega⟩, h2⟩

theorem write_gone (h : Good w pb bv bt N B c ops lim dk V T) (hl : lim = 0 ∨ dk = true) (at_ : Int) (h0 : 0 ≤ at_) (h1 : at_ < N) (p : Option Addr) (cap : Nat) :
    Calls Try.prog 16 #[.pointer (some ⟨pb, 0, none⟩), .int .i64 at_, .slice p 256 cap] w fun e w' => e = .returned (.int .i64 10) ∧ Good w' pb bv bt N B c ops lim true V T ∧ Fr (· = pb) w w' := by
  obtain ⟨nv, nt, hd, ha, hb⟩ := h.disk
  have hn0 := h.n0
  refine (write_power w hd.blk (by omega) at_ p cap h0 h1 hl).mono ?_
  rintro e w' ⟨rfl, a1, a2, _⟩
  exact ⟨rfl, h.turned a1 a2 ⟨h.ops0, h.ops1⟩ ⟨h.lim0, h.lim1⟩, a2⟩

theorem sync_gone (h : Good w pb bv bt N B c ops lim dk V T) (hl : lim = 0 ∨ dk = true) :
    Calls Try.prog 18 #[.pointer (some ⟨pb, 0, none⟩)] w fun e w' => e = .returned (.int .i64 10) ∧ Good w' pb bv bt N B c ops lim true V T ∧ Fr (· = pb) w w' := by
  obtain ⟨nv, nt, hd, ha, hb⟩ := h.disk
  have hn0 := h.n0
  refine (sync_power w hd.blk (by omega) hl).mono ?_
  rintro e w' ⟨rfl, a1, a2, _⟩
  exact ⟨rfl, h.turned a1 a2 ⟨h.ops0, h.ops1⟩ ⟨h.lim0, h.lim1⟩, a2⟩

theorem read_gone (h : Good w pb bv bt N B c ops lim true V T) (at_ : Int) (h0 : 0 ≤ at_) (h1 : at_ < N) :
    Calls Try.prog 20 #[.pointer (some ⟨pb, 0, none⟩), .int .i64 at_] w fun e w' => e = .returned (.tuple #[.slice none 0 0, .int .i64 10]) ∧ w = w' := by
  obtain ⟨nv, nt, hd, ha, hb⟩ := h.disk
  have hn0 := h.n0
  exact read_power w hd.blk (by omega) at_ h0 h1
end

/-- A disk of which k calls were asked that may take n. -/
structure LA (w : World) (pb bv bt N n k B : Nat) (m : Mo) (wr : World) : Prop where
  ex : ∃ bt' c ops lim dk V T, Good wr pb bv bt' N B c ops lim dk V T ∧ (bt' = bt ∨ w.heap.size ≤ bt') ∧ (Mo.of V T).eqv m ∧ ((k ≤ n ∧ lim = (n : Int) - k ∧ dk = false ∧ ops = k) ∨ (n < k ∧ lim = 0 ∧ dk = true ∧ ops = n))
  fr : Fr (fun i => i = pb ∨ i = bv ∨ i = bt) w wr

section
variable {w wr : World} {pb bv bt N n k B : Nat} {m : Mo} {f : Int}

theorem LA.cell0 (h : LA w pb bv bt N n k B m wr) : wr.cell? ⟨pb, 0, none⟩ = some (.int .i64 N) := by
  obtain ⟨bt', c, ops, lim, dk, V, T, hg, _⟩ := h.ex
  obtain ⟨nv, nt, hd, _, _⟩ := hg.disk
  exact hd.blk.c0

theorem LA.calm (h : LA w pb bv bt N n k B m wr) {w1 : World} (hF : Fr (fun _ => False) wr w1) : LA w pb bv bt N n k B m w1 := by
  obtain ⟨bt', c, ops, lim, dk, V, T, hg, h1⟩ := h.ex
  exact ⟨⟨bt', c, ops, lim, dk, V, T, hg.calm hF, h1⟩, h.fr.trans hF (fun _ _ e => e.elim)⟩

theorem less (a b : Nat) (h : b < a) : lessOne ((a : Int) - b) = (a : Int) - (b + 1 : Nat) := by
  unfold lessOne
  split <;> omega

theorem LA.sync (h : LA w pb bv bt N n k B m wr) (hB : B + 2 ≤ 100000000) (hf : (k < n ∧ f = 0) ∨ (n ≤ k ∧ f = 10)) :
    Calls Try.prog 18 #[.pointer (some ⟨pb, 0, none⟩)] wr fun e w' => e = .returned (.int .i64 f) ∧ LA w pb bv bt N n (k + 1) (B + 2) (if k < n then m.sync else m) w' := by
  obtain ⟨bt', c, ops, lim, dk, V, T, hg, hb, hm, hs⟩ := h.ex
  rcases hf with ⟨hk, rfl⟩ | ⟨hk, rfl⟩
  · obtain ⟨h1, rfl, rfl, rfl⟩ : k ≤ n ∧ lim = (n : Int) - k ∧ dk = false ∧ ops = k := by
      rcases hs with hs | hs
      · exact hs
      · omega
    rw [if_pos hk]
    refine (sync_good hg (by omega) hB).mono ?_
    rintro e w' ⟨rfl, bt'', V', hg', hV, hlt, hF⟩
    rw [less n k hk] at hg'
    exact ⟨rfl, ⟨bt'', _, _, _, _, V', _, hg', Or.inr (Nat.le_trans h.fr.size hlt), eqv_sync hm hV, Or.inl ⟨by omega, rfl, rfl, by omega⟩⟩, h.fr.trans hF (fun i _ e => by rcases e with e | e; exact Or.inl e; exact Or.inr (Or.inl e))⟩
  · rw [if_neg (by omega)]
    have hl : lim = 0 ∨ dk = true := by
      rcases hs with hs | hs
      · exact Or.inl (by omega)
      · exact Or.inr hs.2.2.1
    refine (sync_gone hg hl).mono ?_
    rintro e w' ⟨rfl, hg', hF⟩
    exact ⟨rfl, ⟨bt', c, ops, lim, true, V, T, hg'.big (by omega) hB, hb, hm, Or.inr ⟨by omega, by omega, rfl, by omega⟩⟩, h.fr.trans hF (fun i _ e => Or.inl e)⟩

theorem LA.write (h : LA w pb bv bt N n k B m wr) (hB : B + 2 ≤ 100000000) (hf : (k < n ∧ f = 0) ∨ (n ≤ k ∧ f = 10)) {w1 : World} {g kk : Nat} {x : UInt8} {s : Int} (h0 : 0 ≤ s) (h1 : s < N) (hg1 : wr.heap.size ≤ g) (hg2 : g < w1.heap.size) (hr : Reads w1 g 0 (one x)) (hF : Fr (fun _ => False) wr w1) :
    Calls Try.prog 16 #[.pointer (some ⟨pb, 0, none⟩), .int .i64 s, .slice (some ⟨g, 0, none⟩) 256 kk] w1 fun e w' => e = .returned (.int .i64 f) ∧ LA w pb bv bt N n (k + 1) (B + 2) (if k < n then m.write s (one x) else m) w' := by
  obtain ⟨bt', c, ops, lim, dk, V, T, hg, hb, hm, hs⟩ := h.ex
  have hl := hg.lt
  have hn1 := hg.n1
  have hi : I64 s := by constructor <;> omega
  rcases hf with ⟨hk, rfl⟩ | ⟨hk, rfl⟩
  · obtain ⟨h2, rfl, rfl, rfl⟩ : k ≤ n ∧ lim = (n : Int) - k ∧ dk = false ∧ ops = k := by
      rcases hs with hs | hs
      · exact hs
      · omega
    rw [if_pos hk]
    refine (write_good (hg.calm hF) (by omega) hB s h0 h1 g 0 kk (one x) (one_length x) hg2 hr (by omega) (by omega) (by omega)).mono ?_
    rintro e w' ⟨rfl, hg', hF'⟩
    rw [less n k hk] at hg'
    exact ⟨rfl, ⟨bt', _, _, _, _, _, _, hg', hb, eqv_write hm (hg.turns s hi).1 _, Or.inl ⟨by omega, rfl, rfl, by omega⟩⟩, (h.fr.trans hF (fun _ _ e => e.elim)).trans hF' (fun i hi e => by omega)⟩
  · rw [if_neg (by omega)]
    have hl : lim = 0 ∨ dk = true := by
      rcases hs with hs | hs
      · exact Or.inl (by omega)
      · exact Or.inr hs.2.2.1
    refine (write_gone (hg.calm hF) hl s h0 h1 _ kk).mono ?_
    rintro e w' ⟨rfl, hg', hF'⟩
    exact ⟨rfl, ⟨bt', c, ops, lim, true, V, T, hg'.big (by omega) hB, hb, hm, Or.inr ⟨by omega, by omega, rfl, by omega⟩⟩, (h.fr.trans hF (fun _ _ e => e.elim)).trans hF' (fun i _ e => Or.inl e)⟩
end

/-- Two disks that hold the same. -/
def TwoG (w0 : World) (pb qb N : Nat) (I J : Nat → List UInt8) (dk : Bool) (ops : Int) (w : World) : Prop :=
  ∃ pv pt B c lim V T qv qt B' c' ops' V' T', Good w pb pv pt N B c ops lim dk V T ∧ Good w qb qv qt N B' c' ops' (-1) false V' T' ∧ (∀ k : Nat, k < N → V k (T k) = I k ∧ V' k (T' k) = I k ∧ V k 0 = J k ∧ V' k 0 = J k) ∧
    (w0.heap.size ≤ pb ∧ w0.heap.size ≤ pv ∧ w0.heap.size ≤ pt) ∧ B ≤ 1000 ∧ Fr (fun _ => False) w0 w

section
variable {w0 w : World} {pb qb N : Nat} {I J : Nat → List UInt8} {dk : Bool} {ops : Int}

theorem TwoG.calm (h : TwoG w0 pb qb N I J dk ops w) {w' : World} (hF : Fr (fun _ => False) w w') : TwoG w0 pb qb N I J dk ops w' := by
  obtain ⟨pv, pt, B, c, lim, V, T, qv, qt, B', c', ops', V', T', h1, h2, h3, h4, h5, h6⟩ := h
  exact ⟨pv, pt, B, c, lim, V, T, qv, qt, B', c', ops', V', T', h1.calm hF, h2.calm hF, h3, h4, h5, h6.trans hF (fun _ _ e => e)⟩

theorem TwoG.fr (h : TwoG w0 pb qb N I J dk ops w) : Fr (fun _ => False) w0 w := by
  obtain ⟨_, _, _, _, _, _, _, _, _, _, _, _, _, _, _, _, _, _, _, h6⟩ := h
  exact h6

theorem TwoG.sectors (h : TwoG w0 pb qb N I J dk ops w) : Calls Try.prog 32 #[.pointer (some ⟨pb, 0, none⟩)] w fun e w' => e = .returned (.int .i64 N) ∧ w = w' := by
  obtain ⟨pv, pt, B, c, lim, V, T, qv, qt, B', c', ops', V', T', h1, _⟩ := h
  exact sectors_good h1

theorem TwoG.opsOf (h : TwoG w0 pb qb N I J dk ops w) : Calls Try.prog 31 #[.pointer (some ⟨pb, 0, none⟩)] w fun e w' => e = .returned (.int .i64 ops) ∧ w = w' := by
  obtain ⟨pv, pt, B, c, lim, V, T, qv, qt, B', c', ops', V', T', h1, _⟩ := h
  exact ops_good h1

/-- What Read answers: its bytes are of no account. -/
theorem TwoG.read (h : TwoG w0 pb qb N I J dk ops w) {f : Int} (hf : (dk = true ∧ f = 10) ∨ (dk = false ∧ f = 0)) (at_ : Int) (h0 : 0 ≤ at_) (h1 : at_ < N) : Calls Try.prog 20 #[.pointer (some ⟨pb, 0, none⟩), .int .i64 at_] w fun e w' => ∃ v, e = .returned (.tuple #[v, .int .i64 f]) ∧ TwoG w0 pb qb N I J dk ops w' := by
  obtain ⟨pv, pt, B, c, lim, V, T, qv, qt, B', c', ops', V', T', h2, _⟩ := id h
  rcases hf with ⟨rfl, rfl⟩ | ⟨rfl, rfl⟩
  · refine (read_gone h2 at_ h0 h1).mono ?_
    rintro e w' ⟨rfl, rfl⟩
    exact ⟨_, rfl, h⟩
  · refine (read_good h2 at_ h0 h1).mono ?_
    rintro e w' ⟨g, cap, rfl, _, _, hF⟩
    exact ⟨_, rfl, h.calm hF⟩

theorem TwoG.imageQ (h : TwoG w0 pb qb N I J dk ops w) : Calls Try.prog 33 #[.pointer (some ⟨qb, 0, none⟩)] w fun e w' => diskSynced.NewImg w N I e w' ∧ TwoG w0 pb qb N I J dk ops w' := by
  obtain ⟨pv, pt, B, c, lim, V, T, qv, qt, B', c', ops', V', T', h1, h2, h3, _⟩ := id h
  have hn1 := h2.n1
  refine (image_good h2).mono fun e w' hr => ?_
  have hi := diskSynced.img_of (fun k hk => h2.len (by constructor <;> omega) (h2.turnI (by constructor <;> omega))) (fun k hk => (h3 k hk).2.1) hr
  obtain ⟨_, _, _, _, _, hF⟩ := id hi
  exact ⟨hi, h.calm hF⟩

theorem TwoG.imageP (h : TwoG w0 pb qb N I J dk ops w) : Calls Try.prog 33 #[.pointer (some ⟨pb, 0, none⟩)] w fun e w' => diskSynced.NewImg w N I e w' ∧ TwoG w0 pb qb N I J dk ops w' := by
  obtain ⟨pv, pt, B, c, lim, V, T, qv, qt, B', c', ops', V', T', h2, _, h3, _⟩ := id h
  have hn1 := h2.n1
  refine (image_good h2).mono fun e w' hr => ?_
  have hi := diskSynced.img_of (fun k hk => h2.len (by constructor <;> omega) (h2.turnI (by constructor <;> omega))) (fun k hk => (h3 k hk).1) hr
  obtain ⟨_, _, _, _, _, hF⟩ := id hi
  exact ⟨hi, h.calm hF⟩

theorem TwoG.sureQ (h : TwoG w0 pb qb N I J dk ops w) : Calls Try.prog 35 #[.pointer (some ⟨qb, 0, none⟩)] w fun e w' => diskSynced.NewImg w N J e w' ∧ TwoG w0 pb qb N I J dk ops w' := by
  obtain ⟨pv, pt, B, c, lim, V, T, qv, qt, B', c', ops', V', T', h1, h2, h3, _⟩ := id h
  have hn1 := h2.n1
  refine (sure_good h2).mono fun e w' hr => ?_
  have hi := diskSynced.img_of (fun k hk => h2.len (by constructor <;> omega) I64.zero) (fun k hk => (h3 k hk).2.2.2) hr
  obtain ⟨_, _, _, _, _, hF⟩ := id hi
  exact ⟨hi, h.calm hF⟩

theorem TwoG.sureP (h : TwoG w0 pb qb N I J dk ops w) : Calls Try.prog 35 #[.pointer (some ⟨pb, 0, none⟩)] w fun e w' => diskSynced.NewImg w N J e w' ∧ TwoG w0 pb qb N I J dk ops w' := by
  obtain ⟨pv, pt, B, c, lim, V, T, qv, qt, B', c', ops', V', T', h2, _, h3, _⟩ := id h
  have hn1 := h2.n1
  refine (sure_good h2).mono fun e w' hr => ?_
  have hi := diskSynced.img_of (fun k hk => h2.len (by constructor <;> omega) I64.zero) (fun k hk => (h3 k hk).2.2.1) hr
  obtain ⟨_, _, _, _, _, hF⟩ := id hi
  exact ⟨hi, h.calm hF⟩

/-- Behind a crash a sync goes again. -/
theorem TwoG.crash (h : TwoG w0 pb qb N I J dk ops w) : Calls Try.prog 25 #[.pointer (some ⟨pb, 0, none⟩), .slice none 0 0] w fun e w' => e = .returned (.int .i64 0) ∧ ∀ w2, w2 = w' → Calls Try.prog 18 #[.pointer (some ⟨pb, 0, none⟩)] w2 fun e w' => e = .returned (.int .i64 0) ∧ Fr (fun _ => False) w0 w' := by
  obtain ⟨pv, pt, B, c, lim, V, T, qv, qt, B', c', ops', V', T', h2, _, _, h4, h5, h6⟩ := h
  refine (crash_good h2 _ [] ⟨none, 0, rfl, by simp, fun h => absurd rfl h⟩).mono ?_
  rintro e w' ⟨rfl, bt', V', L', hg', _, _, _, _, hlt, hF⟩
  refine ⟨rfl, ?_⟩
  rintro w2 rfl
  refine (sync_free hg' (by omega)).mono ?_
  rintro e w3 ⟨rfl, bt'', V'', hg3, _, _, hF3⟩
  exact ⟨rfl, (h6.go hF (fun i e => by omega)).go hF3 (fun i e => by omega)⟩
end

/-- A slice that came in is as long as its room at most. -/
theorem acts_room {H : Type} {enc : TypeId × Value → H} {w : World} {base : Nat} {spare : Nat → Bool} {held : Bool} {a : Option Addr} {len cap : Nat} {d : DataW H} {ps : List MemPlace} (h : DataW.Trod enc Try.prog w base spare held 23 (.slice a len cap) d ps) : len ≤ cap ∧ cap ≤ 9223372036854775807 := by
  obtain ⟨fuel, hf⟩ := h
  have hf' : DataW.trod enc Try.prog w base spare held fuel 23 [.slice a len cap] = some (d, ps) := hf
  rcases open_slice Try.underlying23 hf' with ⟨hc, _⟩ | ⟨ad, ln, cp, m, n, D, Pl, hc, _, hl, hm, hmm, _, hx⟩
  · simp only [List.cons.injEq, Value.slice.injEq, and_true] at hc
    obtain ⟨rfl, rfl, rfl⟩ := hc
    exact ⟨Nat.le_refl _, by omega⟩
  · simp only [List.cons.injEq, Value.slice.injEq, and_true] at hc
    obtain ⟨rfl, rfl, rfl⟩ := hc
    unfold maxLen at hm
    exact ⟨hl, by omega⟩

/-- The first of the calls. -/
theorem ActsV.firsts {w : World} {p : Option Addr} {len cap : Nat} {A : List ActD} (h : ActsV w (.slice p len cap) A) (hl : A.length = len) (j cap' : Nat) (hj : j ≤ len) : ActsV w (.slice p j cap') (A.take j) := by
  obtain ⟨p', cap'', hv, h1, h2⟩ := h
  simp only [Value.slice.injEq] at hv
  obtain ⟨rfl, _, rfl⟩ := hv
  have hlen : (A.take j).length = j := by rw [List.length_take]; omega
  refine ⟨p, cap', by rw [hlen], by omega, fun hne => ?_⟩
  obtain ⟨blk, off, hp, hb, ha⟩ := h2 (by rintro rfl; simp at hne)
  refine ⟨blk, off, hp, hb, fun i a hi => ha i a ?_⟩
  have : i < j := by
    have := (List.getElem?_eq_some_iff.1 hi).1
    omega
  rwa [List.getElem?_take_of_lt this] at hi

theorem acts_step {M : Mo} {N n k : Nat} {A : List ActD} {a : ActD} (h : A[k]? = some a) : (if k < n then (M.acts N (A.take (min n k))).act N a else M.acts N (A.take (min n k))) = M.acts N (A.take (min n (k + 1))) := by
  by_cases hk : k < n
  · rw [if_pos hk, (by omega : min n k = k), (by omega : min n (k + 1) = k + 1), List.take_add_one, h]
    exact (Mo.acts_snoc _ _ _ _).symm
  · rw [if_neg hk, (by omega : min n k = n), (by omega : min n (k + 1) = n)]

theorem acts_step_sync {M : Mo} {N n k : Nat} {A : List ActD} {a : ActD} (h : A[k]? = some a) (hs : amongZ a.what 4 = 3) : (if k < n then (M.acts N (A.take (min n k))).sync else M.acts N (A.take (min n k))) = M.acts N (A.take (min n (k + 1))) := by
  rw [← acts_step h]
  unfold Mo.act ActD.isSync
  rw [if_pos (decide_eq_true hs)]

theorem acts_step_write {M : Mo} {N n k : Nat} {A : List ActD} {a : ActD} (h : A[k]? = some a) (hs : amongZ a.what 4 ≠ 3) : (if k < n then (M.acts N (A.take (min n k))).write (amongZ a.where_ N) (one a.fill) else M.acts N (A.take (min n k))) = M.acts N (A.take (min n (k + 1))) := by
  rw [← acts_step h]
  unfold Mo.act ActD.isSync
  rw [if_neg (show ¬ (decide (amongZ a.what 4 = 3) = true) by simpa using hs)]

/-- do on the clone brings both disks to hold the same. -/
theorem fin_do {w0 w3 wr : World} {pb bv bt qb qv qt N n m B : Nat} {A' : List ActD} {dk : Bool} {ops : Int} {v : Value} (hL : LA w3 pb bv bt N n m B ((Mo.of (fun _ _ => noughts) (fun _ => 0)).acts N A') wr) (hB : B ≤ 1000) (hq : Good w3 qb qv qt N 0 0 0 (-1) false (fun _ _ => noughts) (fun _ => 0)) (hN : N ≤ 1000)
    (h0 : w0.heap.size ≤ pb ∧ w0.heap.size ≤ bv ∧ w0.heap.size ≤ bt) {S : Nat} (hs : pb < S ∧ bv < S ∧ bt < S) (hs' : S ≤ qb ∧ S ≤ qv ∧ S ≤ qt) (hF : Fr (fun _ => False) w0 w3) (hA : ActsV w0 v A') (hl : A'.length ≤ 200) (hd : (m ≤ n ∧ dk = false ∧ ops = m) ∨ (n < m ∧ dk = true ∧ ops = n)) :
    Calls Try.prog 38 #[.pointer (some ⟨qb, 0, none⟩), v] wr fun e w' => e = .returned (.tuple #[]) ∧ ∃ I J, TwoG w0 pb qb N I J dk ops w' := by
  obtain ⟨bt', c, ops', lim, dk', V, T, hg, hb, hm, hst⟩ := hL.ex
  have hql := hq.lt
  have hFr := hF.go hL.fr (fun i e => by omega)
  have hq' : Good wr qb qv qt N 0 0 0 (-1) false (fun _ _ => noughts) (fun _ => 0) := hq.kept hL.fr (by omega) (by omega) (by omega)
  have hsz := hF.size
  obtain ⟨rfl, rfl⟩ : dk' = dk ∧ ops' = ops := by
    rcases hst with ⟨h1, _, h2, h3⟩ | ⟨h1, _, h2, h3⟩ <;> rcases hd with ⟨k1, k2, k3⟩ | ⟨k1, k2, k3⟩
    · exact ⟨h2.trans k2.symm, h3.trans k3.symm⟩
    · omega
    · omega
    · exact ⟨h2.trans k2.symm, h3.trans k3.symm⟩
  refine (do_acts wr hq' (by omega) hN v A' (hA.kept hFr) (fun he blk _ off cap hv => ?_)).mono ?_
  · obtain ⟨p, cap', hv', _, ha⟩ := hA
    obtain ⟨blk', off', hp, hb, _⟩ := ha he
    subst hp
    rw [hv'] at hv
    simp only [Value.slice.injEq, Option.some.injEq, Addr.mk.injEq, and_true] at hv
    omega
  · rintro e w' ⟨rfl, ⟨qt', c', ops2, V', T', hg', hb', hm'⟩, hfr⟩
    rw [List.take_of_length_le hl] at hm'
    have hgl := hg.lt
    have hN4 := hg.n1
    have hgk : Good w' pb bv bt' N B c ops' lim dk' V T := hg.kept hfr (by omega) (by omega) (by omega)
    refine ⟨rfl, fun k => V k (T k), fun k => V k 0, bv, bt', B, c, lim, V, T, qv, qt', _, c', ops2, V', T', hgk, hg', fun k hk => ?_, by omega, hB, hFr.go hfr (fun i e => by omega)⟩
    have hi : I64 (k : Int) := by constructor <;> omega
    have e1 := hm k hi
    have e2 := hm' k hi
    exact ⟨rfl, e2.1.trans e1.1.symm, rfl, e2.2.trans e1.2.symm⟩

end Go.Proofs.Ytbmbibepcnpngaa
