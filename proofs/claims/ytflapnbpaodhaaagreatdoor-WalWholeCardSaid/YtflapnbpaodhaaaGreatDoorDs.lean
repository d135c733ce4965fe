/-
  A disk as a value: what each sector has, what is sure, what a crash may leave; its calls turn the value.
-/
import Derived.Test.YtflapnbpaodhaaaGreatDoorJB
namespace Go.Proofs.YtflapnbpaodhaaaGreatDoor.ds
set_option maxRecDepth 100000
open Go.RowKit Go.Maps

/-- A block of cells of this type. -/
def Ty (w : World) (t : TypeId) (i : Nat) : Prop := ∃ cs, w.heap[i]? = some (.cells cs t (0, 0))
theorem Ty.lt {w : World} {t : TypeId} {i : Nat} (h : Ty w t i) : i < w.heap.size := by
  obtain ⟨cs, h⟩ := h
  exact (Array.getElem?_eq_some_iff.1 h).1
theorem Ty.ne {w : World} {t t' : TypeId} {i j : Nat} (h : Ty w t i) (h' : Ty w t' j) (ht : t ≠ t') : i ≠ j := by
  rintro rfl
  obtain ⟨cs, h⟩ := h
  obtain ⟨cs', h'⟩ := h'
  rw [h] at h'
  cases h'
  exact ht rfl
/-- Whatever is of another type than a disk stays. -/
def Keep (w w' : World) : Prop := w.heap.size ≤ w'.heap.size ∧ ∀ t i, Ty w t i → t ≠ 66 → w'.heap[i]? = w.heap[i]?
theorem Keep.refl (w : World) : Keep w w := ⟨Nat.le_refl _, fun _ _ _ _ => rfl⟩
theorem Keep.of_fr {w w' : World} (h : Fr (fun _ => False) w w') : Keep w w' := ⟨h.size, fun _ i hi _ => h.block i hi.lt id⟩
theorem Keep.ty {w w' : World} (h : Keep w w') {t : TypeId} {i : Nat} (hi : Ty w t i) (ht : t ≠ 66) : Ty w' t i := by
  obtain ⟨cs, hc⟩ := id hi
  exact ⟨cs, (h.2 t i hi ht).trans hc⟩
theorem Keep.trans {a b c : World} (h : Keep a b) (k : Keep b c) : Keep a c := ⟨Nat.le_trans h.1 k.1, fun t i hi ht => (k.2 t i (h.ty hi ht) ht).trans (h.2 t i hi ht)⟩

section
variable {w : World} {pb bv bt N B c : Nat} {ops lim : Int} {dk : Bool} {V : Int → Int → List UInt8} {T : Int → Int}
theorem tyP (h : Good w pb bv bt N B c ops lim dk V T) : Ty w 66 pb := by
  obtain ⟨nv, nt, hd, _, _⟩ := h.disk
  exact ⟨_, hd.blk⟩
theorem apart (h : Good w pb bv bt N B c ops lim dk V T) {t : TypeId} {i : Nat} (ht : Ty w t i) (hne : t ≠ 66) : i ≠ pb ∧ i ≠ bv ∧ i ≠ bt := by
  refine ⟨ht.ne (tyP h) hne, ?_, ?_⟩ <;> obtain ⟨nv, nt, hd, _, _⟩ := h.disk <;> obtain ⟨cs, hc⟩ := ht <;> rintro rfl
  · obtain ⟨D, ⟨es, clock, h1, _⟩, _⟩ := hd.sec
    rw [hc] at h1
    cases h1
  · obtain ⟨D, ⟨es, clock, h1, _⟩, _⟩ := hd.turn
    rw [hc] at h1
    cases h1
theorem keep_of (hg : Good w pb bv bt N B c ops lim dk V T) {S : Nat → Prop} {w' : World} (hF : Fr S w w') (hS : ∀ i, S i → i = pb ∨ i = bv ∨ i = bt) : Keep w w' :=
  ⟨hF.size, fun t i hi ht => hF.block i hi.lt (fun e => by
    have h := apart hg hi ht
    rcases hS i e with e | e | e
    · exact h.1 e
    · exact h.2.1 e
    · exact h.2.2 e)⟩
theorem turned (h : Good w pb bv bt N B c ops lim dk V T) {w' : World} {ops' lim' : Int} {dk' : Bool} (hb : Blk w' pb N bv bt ops' lim' dk') (hF : Fr (· = pb) w w') (ho : 0 ≤ ops' ∧ ops' ≤ B) (hl : -1 ≤ lim' ∧ lim' ≤ 9223372036854775807) : Good w' pb bv bt N B c ops' lim' dk' V T := by
  obtain ⟨nv, nt, hd, a, b⟩ := h.disk
  exact ⟨⟨nv, nt, ⟨hb, hd.sec.kept hF (hd.sec.ne_blk hd.blk), hd.turn.kept hF (hd.turn.ne_blk hd.blk), hd.ne⟩, a, b⟩, h.n0, h.n1, h.small, h.turns, h.out, ho.1, ho.2, hl.1, hl.2⟩
theorem write_gone (h : Good w pb bv bt N B c ops lim dk V T) (hl : lim = 0 ∨ dk = true) (at_ : Int) (h0 : 0 ≤ at_) (h1 : at_ < N) (p : Option Addr) (cap : Nat) :
    Calls Tryz.prog 25 #[.pointer (some ⟨pb, 0, none⟩), .int .i64 at_, .slice p 256 cap] w fun e w' => e = .returned (.int .i64 10) ∧ Good w' pb bv bt N B c ops lim true V T ∧ Fr (· = pb) w w' := by
  obtain ⟨nv, nt, hd, ha, hb⟩ := h.disk
  have hn0 := h.n0
  refine (write_power w hd.blk (by omega) at_ p cap h0 h1 hl).mono ?_
  rintro e w' ⟨rfl, a1, a2, _⟩
  exact ⟨rfl, turned h a1 a2 ⟨h.ops0, h.ops1⟩ ⟨h.lim0, h.lim1⟩, a2⟩
theorem sync_gone (h : Good w pb bv bt N B c ops lim dk V T) (hl : lim = 0 ∨ dk = true) :
    Calls Tryz.prog 27 #[.pointer (some ⟨pb, 0, none⟩)] w fun e w' => e = .returned (.int .i64 10) ∧ Good w' pb bv bt N B c ops lim true V T ∧ Fr (· = pb) w w' := by
  obtain ⟨nv, nt, hd, ha, hb⟩ := h.disk
  have hn0 := h.n0
  refine (sync_power w hd.blk (by omega) hl).mono ?_
  rintro e w' ⟨rfl, a1, a2, _⟩
  exact ⟨rfl, turned h a1 a2 ⟨h.ops0, h.ops1⟩ ⟨h.lim0, h.lim1⟩, a2⟩
end

/-- What a disk has: the latest bytes of each sector, the sure ones, those that a crash may leave; how many operations were taken, how many may be, whether the power is gone, whether all is sure. -/
structure DS where
  img : Int → List UInt8
  sur : Int → List UInt8
  may : Int → List UInt8 → Prop
  ops : Int
  lim : Int
  dk : Bool
  cl : Bool
def DS.gone (d : DS) : Prop := d.lim = 0 ∨ d.dk = true
instance (d : DS) : Decidable d.gone := inferInstanceAs (Decidable (_ ∨ _))
def DS.write (d : DS) (s : Int) (l : List UInt8) : DS :=
  if d.gone then ⟨d.img, d.sur, d.may, d.ops, d.lim, true, d.cl⟩
  else ⟨fun x => if x = s then l else d.img x, d.sur, fun x y => d.may x y ∨ (x = s ∧ y = l), d.ops + 1, lessOne d.lim, false, false⟩
def DS.sync (d : DS) : DS :=
  if d.gone then ⟨d.img, d.sur, d.may, d.ops, d.lim, true, d.cl⟩
  else ⟨d.img, d.img, fun x y => y = d.img x, d.ops + 1, lessOne d.lim, false, true⟩
def DS.err (d : DS) : Int := if d.gone then 10 else 0
/-- A new one. -/
def DS.new : DS := ⟨fun _ => noughts, fun _ => noughts, fun _ y => y = noughts, 0, -1, false, true⟩

/-- The disk that w0 had not has these. -/
structure IsD (w0 : World) (pb N B : Nat) (d : DS) (w : World) : Prop where
  ex : ∃ bv bt c V T, Good w pb bv bt N B c d.ops d.lim d.dk V T ∧ (∀ s, I64 s → V s (T s) = d.img s ∧ V s 0 = d.sur s ∧ ∀ t, 0 ≤ t → t ≤ T s → d.may s (V s t)) ∧ w0.heap.size ≤ pb ∧ w0.heap.size ≤ bv ∧ w0.heap.size ≤ bt ∧ (d.cl = true → c = 0)
  fr : Fr (fun _ => False) w0 w

section
variable {w0 w : World} {pb N B : Nat} {d : DS}
theorem fr_go {S : Nat → Prop} {w a b : World} (h : Fr (fun _ => False) w a) (k : Fr S a b) (hS : ∀ i, S i → w.heap.size ≤ i) : Fr (fun _ => False) w b :=
  ((h.mono (S := S) (fun _ _ e => e.elim)).trans k (fun _ _ e => e)).mono (fun i hi e => by have := hS i e; omega)
theorem IsD.calm (h : IsD w0 pb N B d w) {w' : World} (hF : Fr (fun _ => False) w w') : IsD w0 pb N B d w' := by
  obtain ⟨⟨bv, bt, c, V, T, hg, h1⟩, hf⟩ := h
  exact ⟨⟨bv, bt, c, V, T, hg.calm hF, h1⟩, hf.trans hF (fun _ _ e => e)⟩
theorem IsD.cell0 (h : IsD w0 pb N B d w) : w.cell? ⟨pb, 0, none⟩ = some (.int .i64 N) ∧ 0 < (N : Int) ∧ pb < w.heap.size := by
  obtain ⟨⟨bv, bt, c, V, T, hg, h1⟩, hf⟩ := h
  obtain ⟨nv, nt, hd, _, _⟩ := hg.disk
  have := hg.n0
  exact ⟨hd.blk.c0, by omega, hg.lt.1⟩
theorem start {e : Ending} {w' : World} (h : NewGood w N e w') : ∃ pb, e = .returned (.tuple #[.pointer (some ⟨pb, 0, none⟩), .int .i64 0]) ∧ IsD w pb N 0 DS.new w' := by
  obtain ⟨pb, bv, bt, rfl, hg, g1, g2, g3, hF⟩ := h
  exact ⟨pb, rfl, ⟨bv, bt, 0, _, _, hg, fun s _ => ⟨rfl, rfl, fun _ _ _ => rfl⟩, g1, g2, g3, fun _ => rfl⟩, hF⟩
theorem IsD.write (h : IsD w0 pb N B d w) (hB : B + 2 ≤ 100000000) (s : Int) (h0 : 0 ≤ s) (h1 : s < N) {t : TypeId} (blk off cap : Nat) (l : List UInt8) (hlen : l.length = 256) (hty : Ty w t blk) (hne : t ≠ 66) (hr : Reads w blk off l) :
    Calls Tryz.prog 25 #[.pointer (some ⟨pb, 0, none⟩), .int .i64 s, .slice (some ⟨blk, off, none⟩) 256 cap] w fun e w' => e = .returned (.int .i64 d.err) ∧ IsD w0 pb N (B + 2) (d.write s l) w' ∧ Keep w w' := by
  obtain ⟨⟨bv, bt, c, V, T, hg, hm, a1, a2, a3, a4⟩, hf⟩ := h
  have hap := apart hg hty hne
  by_cases hl : d.lim = 0 ∨ d.dk = true
  · have hl' : d.gone := hl
    refine (write_gone hg hl s h0 h1 _ cap).mono ?_
    rintro e w' ⟨rfl, hg', hF⟩
    unfold DS.err DS.write
    rw [if_pos hl', if_pos hl']
    exact ⟨rfl, ⟨⟨bv, bt, c, V, T, hg'.big (by omega) (by omega), hm, a1, a2, a3, a4⟩, fr_go hf hF (fun i e => by omega)⟩, keep_of hg hF (fun i e => Or.inl e)⟩
  · have hl' : ¬ d.gone := hl
    have hdk : d.dk = false := by cases hk : d.dk; rfl; exact absurd (Or.inr hk) hl
    rw [hdk] at hg
    refine (write_good hg (fun e => hl (Or.inl e)) hB s h0 h1 blk off cap l hlen hty.lt hr hap.1 hap.2.1 hap.2.2).mono ?_
    rintro e w' ⟨rfl, hg', hF⟩
    have hs : I64 s := by have := hg.n1; constructor <;> omega
    have hT0 := hg.turns s hs
    unfold DS.err DS.write
    rw [if_neg hl', if_neg hl']
    refine ⟨rfl, ⟨⟨bv, bt, _, _, _, hg', fun x hx => ?_, a1, a2, a3, fun e => by cases e⟩, fr_go hf hF (fun i e => by rcases e with e | e | e <;> omega)⟩, keep_of hg hF (fun i e => e)⟩
    obtain ⟨m1, m2, m3⟩ := hm x hx
    have hTx := hg.turns x hx
    by_cases hxs : x = s
    · subst hxs
      refine ⟨by simp [upd, updT], by simp only [upd]; rw [if_neg (by omega)]; exact m2, fun t' p0 p1 => ?_⟩
      simp only [updT, if_pos] at p1
      by_cases ht' : t' = T x + 1
      · exact Or.inr ⟨rfl, by simp [upd, ht']⟩
      · simp only [upd]
        rw [if_neg (by omega)]
        exact Or.inl (m3 t' p0 (by omega))
    · refine ⟨by simp [upd, updT, hxs, m1], by simp only [upd]; rw [if_neg (by omega)]; exact m2, fun t' p0 p1 => ?_⟩
      simp only [updT] at p1
      rw [if_neg hxs] at p1
      simp only [upd]
      rw [if_neg (by omega)]
      exact Or.inl (m3 t' p0 p1)
theorem IsD.sync (h : IsD w0 pb N B d w) (hB : B + 2 ≤ 100000000) :
    Calls Tryz.prog 27 #[.pointer (some ⟨pb, 0, none⟩)] w fun e w' => e = .returned (.int .i64 d.err) ∧ IsD w0 pb N (B + 2) d.sync w' ∧ Keep w w' := by
  obtain ⟨⟨bv, bt, c, V, T, hg, hm, a1, a2, a3, a4⟩, hf⟩ := h
  have hfs := hf.size
  by_cases hl : d.lim = 0 ∨ d.dk = true
  · have hl' : d.gone := hl
    refine (sync_gone hg hl).mono ?_
    rintro e w' ⟨rfl, hg', hF⟩
    unfold DS.err DS.sync
    rw [if_pos hl', if_pos hl']
    exact ⟨rfl, ⟨⟨bv, bt, c, V, T, hg'.big (by omega) (by omega), hm, a1, a2, a3, a4⟩, fr_go hf hF (fun i e => by omega)⟩, keep_of hg hF (fun i e => Or.inl e)⟩
  · have hl' : ¬ d.gone := hl
    have hdk : d.dk = false := by cases hk : d.dk; rfl; exact absurd (Or.inr hk) hl
    rw [hdk] at hg
    refine (sync_good hg (fun e => hl (Or.inl e)) hB).mono ?_
    rintro e w' ⟨rfl, bt', V', hg', hv, hbt, hF⟩
    unfold DS.err DS.sync
    rw [if_neg hl', if_neg hl']
    refine ⟨rfl, ⟨⟨bv, bt', _, _, _, hg', fun x hx => ?_, a1, a2, by omega, fun _ => rfl⟩, fr_go hf hF (fun i e => by rcases e with e | e <;> omega)⟩, keep_of hg hF (fun i e => by rcases e with e | e; exact Or.inl e; exact Or.inr (Or.inl e))⟩
    obtain ⟨m1, m2, m3⟩ := hm x hx
    refine ⟨(hv x hx).trans m1, (hv x hx).trans m1, fun t' p0 p1 => ?_⟩
    obtain rfl : t' = 0 := by omega
    exact (hv x hx).trans m1
end
end Go.Proofs.YtflapnbpaodhaaaGreatDoor.ds
