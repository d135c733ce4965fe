/-
  The law's calls on both disks.
-/
import Derived.Test.YtbmbibepcnpngaaPJt
namespace Go.Proofs.Ytbmbibepcnpngaa.play
open Go.RowKit Go.Maps rf

section
variable {w0 : World} {pb bv bt yb gv N B c : Nat} {ops lim : Int} {dk : Bool} {V : Int → Int → List UInt8} {T : Int → Int} {L : Nat → List (List UInt8)} {w : World}

/-- A block of one byte. -/
def OneB (w : World) (g : Nat) (x : UInt8) : Prop := w.heap[g]? = some (.cells (secC (one x)) 5 (0, 0))
theorem OneB.ty {g : Nat} {x : UInt8} (h : OneB w g x) : Ty w 5 g := ⟨_, h⟩

/-- The calls in their blocks stay. -/
def KeepA (w w' : World) : Prop := ∀ i, Ty w 36 i → w'.heap[i]? = w.heap[i]?
theorem keepA {w w' : World} {base yb gv N : Nat} {X : Nat → Prop} {L : Nat → List (List UInt8)} {left : Int} {off : Bool} {taken : Int} (h : RD X base w yb gv N L left off taken) (hF : Fr (Own2 yb gv) w w') : KeepA w w' := fun i hi => hF.block i hi.lt (fun e => by
  rcases e with e | e
  · exact hi.ne h.tyY (by decide) e
  · exact hi.ne h.tyG (by decide) e)
/-- Behind the disk's write: the document's answers the same. -/
def WrHalf (w0 wb : World) (pb yb N B : Nat) (at_ : Int) (n : Nat) (x : UInt8) (g : Nat) (e : Ending) (w' : World) : Prop :=
  ∃ z, e = .returned (.int .i64 z) ∧ Fr (fun _ => False) w0 w' ∧ Keep wb w' ∧ ∀ w2, Fr (fun _ => False) w' w2 → ∀ g2 cap2, w'.heap.size ≤ g2 → OneB w2 g2 x →
    Calls Try.prog 17 #[.pointer (some ⟨yb, 0, none⟩), .int .i64 at_, .slice (some ⟨g2, 0, none⟩) n cap2] w2 fun e w3 => e = .returned (.int .i64 z) ∧ KeepA w2 w3 ∧ OneB w3 g x ∧ JtE (fun i => i = g) w0 pb yb N (B + 2) w3

theorem Jt.write (h : Jt (fun _ => False) w0 pb bv bt yb gv N B c ops lim dk V T L w) (hB : B + 2 ≤ 900000) {wb : World} (hF : Fr (fun _ => False) w wb) {g : Nat} (hg : w.heap.size ≤ g) {x : UInt8} (hb : OneB wb g x) (at_ : Int) (off n cap : Nat) (hn : (n = 256 ∧ off = 0) ∨ n ≠ 256) :
    Calls Try.prog 16 #[.pointer (some ⟨pb, 0, none⟩), .int .i64 at_, .slice (some ⟨g, off, none⟩) n cap] wb (WrHalf w0 wb pb yb N B at_ n x g) := by
  have h0 := (h.lend hg).calm hF
  have hgs := h.good.lt
  have hy0 := h.rd.tyY.lt
  have hgv0 := h.rd.tyG.lt
  have hsz := hF.size
  have hgw := hb.ty.lt
  have hn0 := h.good.n0
  obtain ⟨nv, nt, hd, ha, hbt⟩ := h0.good.disk
  by_cases harg : 0 ≤ at_ ∧ at_ < N ∧ n = 256
  · obtain ⟨p0, p1, rfl⟩ := harg
    have hoff : off = 0 := by
      rcases hn with h | h
      · exact h.2
      · exact absurd rfl h
    subst hoff
    obtain ⟨j, rfl⟩ : ∃ j : Nat, at_ = j := ⟨at_.toNat, by omega⟩
    have hj : j < N := by omega
    by_cases hl : lim = 0 ∨ dk = true
    · refine (write_gone h0.good hl j p0 p1 _ cap).mono ?_
      rintro e w' ⟨rfl, hg', hF'⟩
      have hr' := rd_behind h0.rd h0.good hF' (fun i e => Or.inl e)
      have hF0 := Fr.go h0.fr hF' (fun i e => by have := h.gp; omega)
      refine ⟨10, rfl, hF0, keep_of h0.good hF' (fun i e => Or.inl e), fun w2 hF2 g2 cap2 hg2 ho2 => ?_⟩
      have hr2 := hr'.calm hF2
      have hgd2 := hg'.calm hF2
      refine (rf.write_no hr2 hl.symm j hj _ cap2).mono ?_
      rintro e w3 ⟨rfl, hr3, hF3⟩
      have hs' := hF'.size
      have hs2 := hF2.size
      refine ⟨rfl, keepA hr2 hF3, ?_, bv, bt, gv, c, ops, lim, true, V, T, L, (good_behind hgd2 hr2 hF3 (fun _ e => e)).big (by omega) (by omega), hr3, h.tie, h.gp, h.gm, h.gt, ?_, by omega⟩
      · exact (hF3.block g (by omega) (fun e => by rcases e with e | e <;> omega)).trans ((hF2.block g (by omega) id).trans ((hF'.block g hgw (by omega)).trans hb))
      · exact Fr.go (hF0.trans hF2 (fun _ _ e => e)) hF3 (fun i e => by have := h.rd.yb_ge; have := h.rd.gv_ge; rcases e with e | e <;> omega)
    · have hl0 : lim ≠ 0 := fun e => hl (Or.inl e)
      have hdk : dk = false := by cases dk; rfl; exact absurd (Or.inr rfl) hl
      subst hdk
      refine (write_good h0.good hl0 (by omega) j p0 p1 g 0 cap (one x) (one_length x) hgw (reads_of_block hb) (by omega) (by omega) (by omega)).mono ?_
      rintro e w' ⟨rfl, hg', hF'⟩
      have hr' := rd_behind h0.rd h0.good hF' (fun i e => e)
      have hF0 := Fr.go h0.fr hF' (fun i e => by have := h.gp; have := h.gm; have := h.gt; rcases e with e | e | e <;> omega)
      refine ⟨0, rfl, hF0, keep_of h0.good hF' (fun i e => e), fun w2 hF2 g2 cap2 hg2 ho2 => ?_⟩
      have hr2 := hr'.calm hF2
      have hgd2 := hg'.calm hF2
      have hs' := hF'.size
      have hs2 := hF2.size
      have ho0 := h.good.ops0
      have ho1 := h.good.ops1
      have hsm := h.small
      have hyw := hr'.tyY.lt
      refine (rf.write_ok hr2 hl0 h.good.lim0 h.good.lim1 ho0 (by omega) j hj (h.hL j hj) (some ⟨g2, 0, none⟩) cap2 w2.heap.size (one x) (fun _ => ⟨g2, 0, rfl, ho2.ty.lt, reads_of_block ho2⟩) (one_length x) (Nat.le_refl _) (by rintro ⟨o, e⟩; cases e; omega) (by intro e; cases e) (by intro i e; omega)).mono ?_
      rintro e w3 ⟨rfl, hr3, hF3⟩
      refine ⟨rfl, keepA hr2 hF3, ?_, bv, bt, gv, _, _, _, _, _, _, _, good_behind hgd2 hr2 hF3 (fun _ e => e), hr3, h.tie.write h.hT0 hj (one x), h.gp, h.gm, h.gt, ?_, by omega⟩
      · exact (hF3.block g (by omega) (fun e => by rcases e with e | e <;> omega)).trans ((hF2.block g (by omega) id).trans ((hF'.block g hgw (by omega)).trans hb))
      · exact Fr.go (hF0.trans hF2 (fun _ _ e => e)) hF3 (fun i e => by have := h.rd.yb_ge; have := h.rd.gv_ge; rcases e with e | e <;> omega)
  · refine (Go.Proofs.Ytbmbibepcnpngaa.write_arg wb hd.blk (by omega) at_ _ n cap (by omega)).mono ?_
    rintro e w' ⟨rfl, rfl⟩
    refine ⟨2, rfl, h0.fr, Keep.refl _, fun w2 hF2 g2 cap2 hg2 ho2 => ?_⟩
    have h2 := h0.calm hF2
    refine (rf.write_arg h2.rd at_ _ n cap2 (by omega)).mono ?_
    rintro e w3 ⟨rfl, rfl⟩
    exact ⟨rfl, fun _ _ => rfl, (hF2.block g hgw id).trans hb, bv, bt, gv, c, ops, lim, dk, V, T, L, h2.good.big (by omega) (by omega), h2.rd, h2.tie, h2.gp, h2.gm, h2.gt, h2.fr, by omega⟩

/-- Behind the disk's sync. -/
def SyHalf (w0 : World) (pb yb N B : Nat) (e : Ending) (w' : World) : Prop :=
  ∃ z, e = .returned (.int .i64 z) ∧ ∀ w2, Fr (fun _ => False) w' w2 →
    Calls Try.prog 19 #[.pointer (some ⟨yb, 0, none⟩)] w2 fun e w3 => e = .returned (.int .i64 z) ∧ JtE (fun _ => False) w0 pb yb N (B + 2) w3

theorem Jt.sync (h : Jt (fun _ => False) w0 pb bv bt yb gv N B c ops lim dk V T L w) (hB : B + 2 ≤ 900000) :
    Calls Try.prog 18 #[.pointer (some ⟨pb, 0, none⟩)] w (SyHalf w0 pb yb N B) := by
  have hgp := h.gp
  have hgm := h.gm
  have hyb := h.rd.yb_ge
  have hgv := h.rd.gv_ge
  have hN := h.good.n1
  by_cases hl : lim = 0 ∨ dk = true
  · refine (sync_gone h.good hl).mono ?_
    rintro e w' ⟨rfl, hg', hF'⟩
    have hr' := rd_behind h.rd h.good hF' (fun i e => Or.inl e)
    have hF0 := Fr.go h.fr hF' (fun i e => by omega)
    refine ⟨10, rfl, fun w2 hF2 => ?_⟩
    have hr2 := hr'.calm hF2
    have hgd2 := hg'.calm hF2
    refine (rf.sync_no hr2 hl.symm).mono ?_
    rintro e w3 ⟨rfl, hr3, hF3⟩
    exact ⟨rfl, bv, bt, gv, c, ops, lim, true, V, T, L, (good_behind hgd2 hr2 hF3 (fun _ e => e)).big (by omega) (by omega), hr3, h.tie, h.gp, h.gm, h.gt, Fr.go (hF0.trans hF2 (fun _ _ e => e)) hF3 (fun i e => by rcases e with e | e <;> omega), by omega⟩
  · have hl0 : lim ≠ 0 := fun e => hl (Or.inl e)
    have hdk : dk = false := by cases dk; rfl; exact absurd (Or.inr rfl) hl
    subst hdk
    have ho0 := h.good.ops0
    have ho1 := h.good.ops1
    have hsm := h.small
    have hws := h.fr.size
    refine (sync_good h.good hl0 (by omega)).mono ?_
    rintro e w' ⟨rfl, bt', V', hg', hV, hbt', hF'⟩
    have hr' := rd_behind h.rd h.good hF' (fun i e => by rcases e with e | e; exact Or.inl e; exact Or.inr (Or.inl e))
    have hF0 := Fr.go h.fr hF' (fun i e => by rcases e with e | e <;> omega)
    refine ⟨0, rfl, fun w2 hF2 => ?_⟩
    have hr2 := hr'.calm hF2
    have hgd2 := hg'.calm hF2
    refine (rf.sync_yes hr2 hN h.hL hl0 h.good.lim0 h.good.lim1 ho0 (by omega)).mono ?_
    rintro e w3 ⟨rfl, hr3, hF3⟩
    exact ⟨rfl, bv, bt', gv, 0, _, _, _, V', _, _, good_behind hgd2 hr2 hF3 (fun _ e => e), hr3, h.tie.sync h.hT0 (fun s hs => hV s (by constructor <;> omega)), h.gp, h.gm, by omega, Fr.go (hF0.trans hF2 (fun _ _ e => e)) hF3 (fun i e => by rcases e with e | e <;> omega), by omega⟩

/-- Behind the disk's crash. -/
def CrHalf (w0 wb : World) (pb yb N B : Nat) (A : Option Addr) (P : List Int) (e : Ending) (w' : World) : Prop :=
  e = .returned (.int .i64 0) ∧ Keep wb w' ∧ ∀ w2, Fr (fun _ => False) w' w2 → ∀ cap,
    Calls Try.prog 27 #[.pointer (some ⟨yb, 0, none⟩), .slice A P.length cap] w2 fun e w3 => e = .returned (.tuple #[]) ∧ JtE (fun _ => False) w0 pb yb N B w3

theorem Jt.crash (h : Jt (fun _ => False) w0 pb bv bt yb gv N B c ops lim dk V T L w) {A : Option Addr} {P : List Int} (hA : RdI w0 w0.heap.size A P) (hP : P.length ≤ 17592186044416) {wb : World} (hF : Fr (fun _ => False) w wb) (v : Value) (hv : Picks wb bv v P) :
    Calls Try.prog 25 #[.pointer (some ⟨pb, 0, none⟩), v] wb (CrHalf w0 wb pb yb N B A P) := by
  have hgp := h.gp
  have hgm := h.gm
  have hyb := h.rd.yb_ge
  have hgv := h.rd.gv_ge
  have hN := h.good.n1
  have hws := h.fr.size
  have hsz := hF.size
  have h0 := h.calm hF
  refine (crash_good h0.good v P hv).mono ?_
  rintro e w' ⟨rfl, bt', V', R, hg', hR, hRl, hV, hV0, hbt', hF'⟩
  have hr' := rd_behind h0.rd h0.good hF' (fun i e => by rcases e with e | e; exact Or.inl e; exact Or.inr (Or.inl e))
  have hF0 := Fr.go h0.fr hF' (fun i e => by rcases e with e | e <;> omega)
  refine ⟨rfl, keep_of h0.good hF' (fun i e => by rcases e with e | e; exact Or.inl e; exact Or.inr (Or.inl e)), fun w2 hF2 cap => ?_⟩
  have hr2 := hr'.calm hF2
  have hgd2 := hg'.calm hF2
  have hF02 := hF0.trans hF2 (fun _ _ e => e)
  refine (rf.crash_any hr2 hN h.hL A cap P.length w0.heap.size P (hA.still hF02 (Nat.le_refl _)) rfl (Nat.le_refl _) (by omega)).mono ?_
  rintro e w3 ⟨rfl, hr3, hF3⟩
  exact ⟨rfl, bv, bt', gv, 0, _, _, _, V', _, _, good_behind hgd2 hr2 hF3 (fun _ e => e), hr3, h.tie.crash h.hT hN hR h.good.out hV hV0, h.gp, h.gm, by omega, Fr.go hF02 hF3 (fun i e => by rcases e with e | e <;> omega), h.small⟩

/-- Behind the disk's limit. -/
def LiHalf (w0 wb : World) (pb yb N B : Nat) (n : Int) (e : Ending) (w' : World) : Prop :=
  e = .returned (.tuple #[]) ∧ Keep wb w' ∧ ∀ w2, Fr (fun _ => False) w' w2 →
    Calls Try.prog 24 #[.pointer (some ⟨yb, 0, none⟩), .int .i64 n] w2 fun e w3 => e = .returned (.tuple #[]) ∧ JtE (fun _ => False) w0 pb yb N B w3

theorem Jt.limit (h : Jt (fun _ => False) w0 pb bv bt yb gv N B c ops lim dk V T L w) (n : Int) (hn : I64 n) :
    Calls Try.prog 23 #[.pointer (some ⟨pb, 0, none⟩), .int .i64 n] w (LiHalf w0 w pb yb N B n) := by
  have hgp := h.gp
  have hyb := h.rd.yb_ge
  have hn0 := h.good.n0
  obtain ⟨nv, nt, hd, ha, hbt⟩ := h.good.disk
  obtain ⟨hn1, hn2⟩ := hn
  refine (Go.Proofs.Ytbmbibepcnpngaa.limit_any _ hd.blk (by omega) n).mono ?_
  rintro e w' ⟨rfl, hb, hF', _⟩
  rw [show max n (-1) = max (-1) n from by omega] at hb
  have hg' := h.good.turned hb hF' ⟨h.good.ops0, h.good.ops1⟩ ⟨by omega, by omega⟩
  have hr' := rd_behind h.rd h.good hF' (fun i e => Or.inl e)
  have hF0 := Fr.go h.fr hF' (fun i e => by omega)
  refine ⟨rfl, keep_of h.good hF' (fun i e => Or.inl e), fun w2 hF2 => ?_⟩
  have hr2 := hr'.calm hF2
  have hgd2 := hg'.calm hF2
  refine (rf.limit_any hr2 n).mono ?_
  rintro e w3 ⟨rfl, hr3, hF3⟩
  exact ⟨rfl, bv, bt, gv, c, ops, _, dk, V, T, L, good_behind hgd2 hr2 hF3 (fun _ e => Or.inl e), hr3, h.tie, h.gp, h.gm, h.gt, Fr.go (hF0.trans hF2 (fun _ _ e => e)) hF3 (fun i e => by omega), h.small⟩

/-- A slice that is read. -/
def ReadV (w : World) (B0 : Nat) (v : Value) (l : List UInt8) : Prop := ∃ A cap, v = .slice A l.length cap ∧ Rd w w.heap.size A l ∧ (l ≠ [] → ∃ g t, A = some ⟨g, 0, none⟩ ∧ B0 ≤ g ∧ w.heap[g]? = some (.cells (secC l) t (0, 0)))
/-- Behind the disk's read. -/
def ReHalf (yb : Nat) (w : World) (at_ : Int) (e : Ending) (w' : World) : Prop :=
  ∃ v l z, e = .returned (.tuple #[v, .int .i64 z]) ∧ ReadV w' w.heap.size v l ∧ (l.length = 0 ∨ l.length = 256) ∧ Fr (fun _ => False) w w' ∧ ∀ w2, Fr (fun _ => False) w' w2 →
    Calls Try.prog 21 #[.pointer (some ⟨yb, 0, none⟩), .int .i64 at_] w2 fun e w3 => ∃ A cap, e = .returned (.tuple #[.slice A l.length cap, .int .i64 z]) ∧ Rd w3 w3.heap.size A l ∧ Fr (fun _ => False) w2 w3

theorem Jt.read (h : Jt (fun _ => False) w0 pb bv bt yb gv N B c ops lim dk V T L w) (at_ : Int) :
    Calls Try.prog 20 #[.pointer (some ⟨pb, 0, none⟩), .int .i64 at_] w (ReHalf yb w at_) := by
  have hn0 := h.good.n0
  obtain ⟨nv, nt, hd, ha, hbt⟩ := h.good.disk
  by_cases harg : 0 ≤ at_ ∧ at_ < N
  · obtain ⟨p0, p1⟩ := harg
    obtain ⟨j, rfl⟩ : ∃ j : Nat, at_ = j := ⟨at_.toNat, by omega⟩
    have hj : j < N := by omega
    cases hdk : dk with
    | true =>
      rw [hdk] at h hd
      refine (read_gone h.good j p0 p1).mono ?_
      rintro e w' ⟨rfl, rfl⟩
      refine ⟨_, [], 10, rfl, ⟨none, 0, rfl, Rd.nil _ _ _, fun h => absurd rfl h⟩, Or.inl rfl, Fr.refl _ _, fun w2 hF2 => ?_⟩
      refine (rf.read_off (h.calm hF2).rd j hj).mono ?_
      rintro e w3 ⟨rfl, rfl⟩
      exact ⟨none, 0, rfl, Rd.nil _ _ _, Fr.refl _ _⟩
    | false =>
      rw [hdk] at h hd
      have hlen : (V j (T j)).length = 256 := by
        have := h.good.n1
        exact h.good.len (by constructor <;> omega) (h.good.turnI (by constructor <;> omega))
      refine (read_good h.good j p0 p1).mono ?_
      rintro e w' ⟨g, cap, rfl, hg, ⟨t, ht⟩, hF'⟩
      refine ⟨_, V j (T j), 0, rfl, ⟨some ⟨g, 0, none⟩, cap, rfl, fun _ => ⟨g, 0, rfl, (Array.getElem?_eq_some_iff.1 ht).1, reads_of_block ht⟩, fun _ => ⟨g, t, rfl, hg, ht⟩⟩, Or.inr hlen, hF', fun w2 hF2 => ?_⟩
      have h2 := (h.calm hF').calm hF2
      refine (rf.read_ok h2.rd j hj (h.hL j hj)).mono ?_
      rintro e w3 ⟨g', c', rfl, hg', hb', hF3⟩
      rw [h.tie.last h.hT0 hj] at hb'
      exact ⟨some ⟨g', 0, none⟩, c', by rw [hlen], hb'.rd, hF3⟩
  · refine (Go.Proofs.Ytbmbibepcnpngaa.read_arg w hd.blk (by omega) at_ (by omega)).mono ?_
    rintro e w' ⟨rfl, rfl⟩
    refine ⟨_, [], 2, rfl, ⟨none, 0, rfl, Rd.nil _ _ _, fun h => absurd rfl h⟩, Or.inl rfl, Fr.refl _ _, fun w2 hF2 => ?_⟩
    refine (rf.read_arg (h.calm hF2).rd at_ (by omega)).mono ?_
    rintro e w3 ⟨rfl, rfl⟩
    exact ⟨none, 0, rfl, Rd.nil _ _ _, Fr.refl _ _⟩
end
end Go.Proofs.Ytbmbibepcnpngaa.play
