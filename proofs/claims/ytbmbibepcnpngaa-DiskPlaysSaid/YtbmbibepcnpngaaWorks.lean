/-
  works.
-/
import Derived.Test.YtbmbibepcnpngaaGood
namespace Go.Proofs.Ytbmbibepcnpngaa
open Go.RowKit Go.Maps

theorem lessOne_free : lessOne (-1) = -1 := rfl

theorem Fr.go {S : Nat → Prop} {w a b : World} (h : Fr (fun _ => False) w a) (k : Fr S a b) (hS : ∀ i, S i → w.heap.size ≤ i) : Fr (fun _ => False) w b :=
  ((h.mono (S := S) (fun _ _ e => e.elim)).trans k (fun _ _ e => e)).mono (fun i hi e => by have := hS i e; omega)

section
variable {w : World} {pb bv bt N B c : Nat} {ops : Int} {V : Int → Int → List UInt8} {T : Int → Int}

theorem write_free (h : Good w pb bv bt N B c ops (-1) false V T) (hB : B + 2 ≤ 100000000) (at_ : Int) (h0 : 0 ≤ at_) (h1 : at_ < N) (blk off cap : Nat) (l : List UInt8) (hlen : l.length = 256) (hblk : blk < w.heap.size) (hr : Reads w blk off l) (hbp : blk ≠ pb) (hbv : blk ≠ bv) (hbt : blk ≠ bt) :
    Calls Try.prog 16 #[.pointer (some ⟨pb, 0, none⟩), .int .i64 at_, .slice (some ⟨blk, off, none⟩) 256 cap] w fun e w' => e = .returned (.int .i64 0) ∧
      Good w' pb bv bt N (B + 2) (cntUp (T at_) c) (ops + 1) (-1) false (upd V at_ (T at_ + 1) l) (updT T at_ (T at_ + 1)) ∧ Fr (fun i => i = pb ∨ i = bv ∨ i = bt) w w' :=
  write_good h (by omega) hB at_ h0 h1 blk off cap l hlen hblk hr hbp hbv hbt

theorem sync_free (h : Good w pb bv bt N B c ops (-1) false V T) (hB : B + 2 ≤ 100000000) :
    Calls Try.prog 18 #[.pointer (some ⟨pb, 0, none⟩)] w fun e w' => e = .returned (.int .i64 0) ∧ SyncGood w pb bv N (B + 2) (ops + 1) (-1) V T w' :=
  sync_good h (by omega) hB
end

/-- What full hands back. -/
def NewFull (w : World) (c : UInt8) (e : Ending) (w' : World) : Prop :=
  ∃ g cap, e = .returned (.slice (some ⟨g, 0, none⟩) 256 cap) ∧ w.heap.size ≤ g ∧ g < w'.heap.size ∧ Reads w' g 0 (one c) ∧ Fr (fun _ => False) w w'
theorem full_new (w : World) (c : UInt8) : Calls Try.prog 15 #[.int .u8 (c.toNat : Int)] w fun e w' => NewFull w c e w' := by
  refine (full_any w c).mono ?_
  rintro e w' ⟨g, cap, rfl, h1, ⟨t, h2⟩, h3⟩
  exact ⟨g, cap, by rw [one_length], h1, (Array.getElem?_eq_some_iff.1 h2).1, reads_of_block h2, h3⟩

/-- What Read hands back. -/
def NewRead (w : World) (l : List UInt8) (e : Ending) (w' : World) : Prop :=
  ∃ g cap, e = .returned (.tuple #[.slice (some ⟨g, 0, none⟩) 256 cap, .int .i64 0]) ∧ w.heap.size ≤ g ∧ g < w'.heap.size ∧ Reads w' g 0 l ∧ Fr (fun _ => False) w w'
theorem read_new {w : World} {pb bv bt N B c : Nat} {ops lim : Int} {V : Int → Int → List UInt8} {T : Int → Int} (h : Good w pb bv bt N B c ops lim false V T) (at_ : Int) (h0 : 0 ≤ at_) (h1 : at_ < N) :
    Calls Try.prog 20 #[.pointer (some ⟨pb, 0, none⟩), .int .i64 at_] w fun e w' => NewRead w (V at_ (T at_)) e w' := by
  have hn1 := h.n1
  have hs : I64 at_ := by constructor <;> omega
  have hl := h.len hs (h.turnI hs)
  refine (read_good h at_ h0 h1).mono ?_
  rintro e w' ⟨g, cap, rfl, h1, ⟨t, h2⟩, h3⟩
  exact ⟨g, cap, by rw [hl], h1, (Array.getElem?_eq_some_iff.1 h2).1, reads_of_block h2, h3⟩

theorem same_yes (w : World) (b1 c1 b2 c2 : Nat) (l1 l2 : List UInt8) (h1 : Reads w b1 0 l1) (h2 : Reads w b2 0 l2) (hl1 : l1.length = 256) (hl2 : l2.length = 256) (he : l1 = l2) :
    Calls Try.prog 22 #[.slice (some ⟨b1, 0, none⟩) 256 c1, .slice (some ⟨b2, 0, none⟩) 256 c2] w fun e w' => e = .returned (.bool true) ∧ Calm w w' := by
  have h := sameR_any w b1 0 c1 b2 0 c2 l1 l2 h1 h2 (by rw [hl1, hl2]) (by omega)
  rw [hl1, hl2, decide_eq_true he] at h
  exact h

theorem upd_at (V : Int → Int → List UInt8) (s t : Int) (l : List UInt8) : upd V s t l s t = l := if_pos ⟨rfl, rfl⟩
theorem upd_ne (V : Int → Int → List UInt8) {s t s' t' : Int} (l : List UInt8) (h : ¬ (s' = s ∧ t' = t)) : upd V s t l s' t' = V s' t' := if_neg h
theorem updT_at (T : Int → Int) (s x : Int) : updT T s x s = x := if_pos rfl
theorem updT_ne (T : Int → Int) {s x s' : Int} (h : s' ≠ s) : updT T s x s' = T s' := if_neg h

theorem pick_one : pickOf [1] 0 3 = 1 := by decide +kernel

/-- The picks of a slice literal. -/
theorem picks_lit (w : World) (bv : Nat) (h : bv < w.heap.size) : Picks (w.alloc (.cells #[.int .i64 1] 3)) bv (.slice (some ⟨w.heap.size, 0, none⟩) 1 1) [1] := by
  refine ⟨some ⟨w.heap.size, 0, none⟩, 1, rfl, by decide, fun _ => ⟨w.heap.size, 0, rfl, by simp, by omega, fun j x hj => ?_⟩⟩
  cases j with
  | zero =>
    simp at hj
    subst hj
    rw [cellAt (heap_alloc_new _ _)]
    rfl
  | succ j => simp at hj

theorem picks_nil (w : World) (bv : Nat) : Picks w bv (.slice none 0 0) [] := ⟨none, 0, rfl, by decide, fun h => absurd rfl h⟩

/-- How the disk of works stands at its crash: a is sure, b and c were written since. -/
structure WorkAt (w0 w : World) (pb bv bt B c : Nat) (ops : Int) (V : Int → Int → List UInt8) (T : Int → Int) : Prop where
  good : Good w pb bv bt 2 B c ops (-1) false V T
  pb0 : w0.heap.size ≤ pb
  bv0 : w0.heap.size ≤ bv
  bt0 : w0.heap.size ≤ bt
  fr : Fr (fun _ => False) w0 w

theorem WorkAt.calm {w0 w w' : World} {pb bv bt B c : Nat} {ops : Int} {V : Int → Int → List UInt8} {T : Int → Int} (h : WorkAt w0 w pb bv bt B c ops V T) (hF : Fr (fun _ => False) w w') : WorkAt w0 w' pb bv bt B c ops V T :=
  ⟨h.good.calm hF, h.pb0, h.bv0, h.bt0, h.fr.trans hF (fun _ _ e => e)⟩

/-- A write of what full has just made. -/
theorem WorkAt.write {w0 w w' : World} {pb bv bt B c : Nat} {ops : Int} {V : Int → Int → List UInt8} {T : Int → Int} (h : WorkAt w0 w pb bv bt B c ops V T) (hB : B + 2 ≤ 100000000) {g k : Nat} {x : UInt8} (h1 : w.heap.size ≤ g) (h2 : g < w'.heap.size) (h3 : Reads w' g 0 (one x)) (h4 : Fr (fun _ => False) w w') :
    Calls Try.prog 16 #[.pointer (some ⟨pb, 0, none⟩), .int .i64 0, .slice (some ⟨g, 0, none⟩) 256 k] w' fun e w2 => e = .returned (.int .i64 0) ∧ WorkAt w0 w2 pb bv bt (B + 2) (cntUp (T 0) c) (ops + 1) (upd V 0 (T 0 + 1) (one x)) (updT T 0 (T 0 + 1)) := by
  have hl := h.good.lt
  refine (write_free (h.good.calm h4) hB 0 (by omega) (by omega) g 0 k (one x) (one_length x) h2 h3 (by omega) (by omega) (by omega)).mono ?_
  rintro e w2 ⟨rfl, hg, hF⟩
  exact ⟨rfl, hg, h.pb0, h.bv0, h.bt0, (h.fr.trans h4 (fun _ _ e => e)).go hF (fun i e => by have := h.pb0; have := h.bv0; have := h.bt0; omega)⟩

theorem WorkAt.sync {w0 w : World} {pb bv bt B c : Nat} {ops : Int} {V : Int → Int → List UInt8} {T : Int → Int} (h : WorkAt w0 w pb bv bt B c ops V T) (hB : B + 2 ≤ 100000000) :
    Calls Try.prog 18 #[.pointer (some ⟨pb, 0, none⟩)] w fun e w2 => e = .returned (.int .i64 0) ∧ ∃ bt' V', WorkAt w0 w2 pb bv bt' (B + 2) 0 (ops + 1) V' (fun _ => 0) ∧ ∀ s, I64 s → V' s 0 = V s (T s) := by
  refine (sync_free h.good hB).mono ?_
  rintro e w2 ⟨rfl, bt', V', hg, hV, hbt, hF⟩
  exact ⟨rfl, bt', V', ⟨hg, h.pb0, h.bv0, Nat.le_trans h.fr.size hbt, h.fr.go hF (fun i e => by have := h.pb0; have := h.bv0; omega)⟩, hV⟩

/-- The first five statements: the disk, and what it holds. -/
def WorkMid (w0 : World) (pb : Nat) (w : World) : Prop :=
  ∃ bv bt V T, WorkAt w0 w pb bv bt 8 1 4 V T ∧ V 0 0 = one 97 ∧ V 0 1 = one 98 ∧ T 0 = 2 ∧ (∀ s, s ≠ 0 → T s = 0)

/-- Two disks, the second a clone of the first. -/
def TwoA (w0 : World) (pb qb : Nat) (w : World) : Prop :=
  ∃ bv bt qv qt m V T, WorkAt w0 w pb bv bt 8 1 4 V T ∧ WorkAt w0 w qb qv qt 8 1 4 V T ∧ (pb < m ∧ bv < m ∧ m ≤ qb ∧ m ≤ qv ∧ m ≤ qt) ∧ V 0 0 = one 97 ∧ V 0 1 = one 98 ∧ T 0 = 2 ∧ (∀ s, s ≠ 0 → T s = 0)

def TwoB (w0 : World) (pb qb : Nat) (w : World) : Prop :=
  ∃ bv bt qv qt m V V' T, WorkAt w0 w pb bv bt 8 0 4 V' (fun _ => 0) ∧ WorkAt w0 w qb qv qt 8 1 4 V T ∧ (pb < m ∧ bv < m ∧ m ≤ qb ∧ m ≤ qv ∧ m ≤ bt ∧ qb ≠ bt ∧ qv ≠ bt) ∧ V' 0 0 = one 98 ∧ V 0 0 = one 97 ∧ T 0 = 2 ∧ (∀ s, s ≠ 0 → T s = 0)

def TwoC (w0 : World) (pb qb : Nat) (w : World) : Prop :=
  ∃ bv bt qv qt V V', WorkAt w0 w pb bv bt 8 0 4 V (fun _ => 0) ∧ WorkAt w0 w qb qv qt 8 0 4 V' (fun _ => 0) ∧ V 0 0 = one 98 ∧ V' 0 0 = one 97

theorem TwoC.calm {w0 w w' : World} {pb qb : Nat} (h : TwoC w0 pb qb w) (hF : Fr (fun _ => False) w w') : TwoC w0 pb qb w' := by
  obtain ⟨bv, bt, qv, qt, V, V', h1, h2, h3, h4⟩ := h
  exact ⟨bv, bt, qv, qt, V, V', h1.calm hF, h2.calm hF, h3, h4⟩

theorem two_clone {w0 w : World} {pb : Nat} (h : WorkMid w0 pb w) : Calls Try.prog 28 #[.pointer (some ⟨pb, 0, none⟩)] w fun e w' => ∃ qb, e = .returned (.pointer (some ⟨qb, 0, none⟩)) ∧ TwoA w0 pb qb w' := by
  obtain ⟨bv, bt, V, T, hw, h1, h2, h3, h4⟩ := h
  have hl := hw.good.lt
  refine (clone_good hw.good).mono ?_
  rintro e w' ⟨qb, qv, qt, rfl, hq, a1, a2, a3, hF⟩
  have hs := hw.fr.size
  exact ⟨qb, rfl, bv, bt, qv, qt, w.heap.size, V, T, hw.calm hF, ⟨hq, by omega, by omega, by omega, hw.fr.trans hF (fun _ _ e => e)⟩, ⟨hl.1, hl.2.1, a1, a2, a3⟩, h1, h2, h3, h4⟩

theorem two_pending {w0 w : World} {pb qb : Nat} (h : TwoA w0 pb qb w) : Calls Try.prog 29 #[.pointer (some ⟨pb, 0, none⟩)] w fun e w' => e = .returned (.int .i64 1) ∧ w = w' := by
  obtain ⟨bv, bt, qv, qt, m, V, T, hw, _⟩ := h
  exact pending_good hw.good

theorem two_ops {w0 w : World} {pb qb : Nat} (h : TwoA w0 pb qb w) : Calls Try.prog 31 #[.pointer (some ⟨pb, 0, none⟩)] w fun e w' => e = .returned (.int .i64 4) ∧ w = w' := by
  obtain ⟨bv, bt, qv, qt, m, V, T, hw, _⟩ := h
  exact ops_good hw.good

theorem rising_one {T : Int → Int} {L : List Int} (hR : Rising T L) (hl : L.length = 1) (h0 : ∀ s, s ≠ 0 → T s = 0) : L = [0] := by
  match L, hl with
  | [x], _ =>
    have hx := (hR.mem x).1 (by simp)
    have : x = 0 := by
      by_cases hx0 : x = 0
      · exact hx0
      · have h1 := h0 x hx0
        have h2 := hx.2
        omega
    rw [this]

theorem two_crash {w0 w : World} {pb qb : Nat} (h : TwoA w0 pb qb w) : Calls Try.prog 25 #[.pointer (some ⟨pb, 0, none⟩), .slice (some ⟨w.heap.size, 0, none⟩) 1 1] (w.alloc (.cells #[.int .i64 1] 3)) fun e w' => e = .returned (.int .i64 0) ∧ TwoB w0 pb qb w' := by
  obtain ⟨bv, bt, qv, qt, m, V, T, hw, hq, hd, h1, h2, h3, h4⟩ := h
  have hA : Fr (fun _ => False) w (w.alloc (.cells #[.int .i64 1] 3)) := (Fr.refl _ w).alloc _
  have hl := hw.good.lt
  have hlq := hq.good.lt
  have hs := hw.fr.size
  have hA1 := hA.size
  refine (crash_good (hw.good.calm hA) _ [1] (picks_lit w bv hl.2.1)).mono ?_
  rintro e w' ⟨rfl, bt', V', L, hg, hR, hL, hV, _, hbt, hF⟩
  obtain rfl := rising_one hR hL h4
  have hv := hV 0 0 rfl
  rw [h3, show (2 : Int) + 1 = 3 from rfl, pick_one, h2] at hv
  refine ⟨rfl, bv, bt', qv, qt, m, V, V', T, ⟨hg, hw.pb0, hw.bv0, by omega, (hw.fr.trans hA (fun _ _ e => e)).go hF (fun i e => by have := hw.pb0; have := hw.bv0; omega)⟩, ⟨(hq.good.calm hA).kept hF (by omega) (by omega) (by omega), hq.pb0, hq.bv0, hq.bt0, (hw.fr.trans hA (fun _ _ e => e)).go hF (fun i e => by have := hw.pb0; have := hw.bv0; omega)⟩, ⟨hd.1, hd.2.1, hd.2.2.1, hd.2.2.2.1, by omega, by omega, by omega⟩, hv, h1, h3, h4⟩

theorem two_crash2 {w0 w : World} {pb qb : Nat} (h : TwoB w0 pb qb w) : Calls Try.prog 25 #[.pointer (some ⟨qb, 0, none⟩), .slice none 0 0] w fun e w' => e = .returned (.int .i64 0) ∧ TwoC w0 pb qb w' := by
  obtain ⟨bv, bt, qv, qt, m, V, V', T, hw, hq, hd, h1, h2, h3, h4⟩ := h
  have hl := hw.good.lt
  have hs := hw.fr.size
  refine (crash_good hq.good _ [] (picks_nil w qv)).mono ?_
  rintro e w' ⟨rfl, bt', V'', L, hg, hR, hL, hV, _, hbt, hF⟩
  obtain rfl := rising_one hR hL h4
  have hv := hV 0 0 rfl
  rw [show pickOf [] 0 (T 0 + 1) = 0 from rfl, h2] at hv
  have hgo := hw.fr.go hF (fun i e => by have := hq.pb0; have := hq.bv0; omega)
  exact ⟨rfl, bv, bt, qv, bt', V', V'', ⟨hw.good.kept hF (by omega) (by omega) (by omega), hw.pb0, hw.bv0, hw.bt0, hgo⟩, ⟨hg, hq.pb0, hq.bv0, by omega, hgo⟩, h1, hv⟩

/-- A slice of 256 bytes x from g on. -/
def Has (w : World) (g : Nat) (l : List UInt8) : Prop := g < w.heap.size ∧ Reads w g 0 l
theorem Has.calm {w w' : World} {g : Nat} {l : List UInt8} (h : Has w g l) (hF : Fr (fun _ => False) w w') : Has w' g l := ⟨Nat.lt_of_lt_of_le h.1 hF.size, h.2.kept hF h.1 id⟩

theorem two_read {w0 w : World} {pb qb : Nat} (h : TwoC w0 pb qb w) : Calls Try.prog 20 #[.pointer (some ⟨pb, 0, none⟩), .int .i64 0] w fun e w' => ∃ g cap, e = .returned (.tuple #[.slice (some ⟨g, 0, none⟩) 256 cap, .int .i64 0]) ∧ Has w' g (one 98) ∧ TwoC w0 pb qb w' ∧ Fr (fun _ => False) w w' := by
  obtain ⟨bv, bt, qv, qt, V, V', h1, h2, h3, h4⟩ := id h
  refine (read_new h1.good 0 (by omega) (by omega)).mono ?_
  rintro e w' ⟨g, cap, rfl, _, a2, a3, hF⟩
  rw [h3] at a3
  exact ⟨g, cap, rfl, ⟨a2, a3⟩, h.calm hF, hF⟩

theorem two_read2 {w0 w : World} {pb qb : Nat} (h : TwoC w0 pb qb w) : Calls Try.prog 20 #[.pointer (some ⟨qb, 0, none⟩), .int .i64 0] w fun e w' => ∃ g cap, e = .returned (.tuple #[.slice (some ⟨g, 0, none⟩) 256 cap, .int .i64 0]) ∧ Has w' g (one 97) ∧ TwoC w0 pb qb w' ∧ Fr (fun _ => False) w w' := by
  obtain ⟨bv, bt, qv, qt, V, V', h1, h2, h3, h4⟩ := id h
  refine (read_new h2.good 0 (by omega) (by omega)).mono ?_
  rintro e w' ⟨g, cap, rfl, _, a2, a3, hF⟩
  rw [h4] at a3
  exact ⟨g, cap, rfl, ⟨a2, a3⟩, h.calm hF, hF⟩

theorem two_image {w0 w : World} {pb qb : Nat} (h : TwoC w0 pb qb w) : Calls Try.prog 33 #[.pointer (some ⟨pb, 0, none⟩)] w fun e w' => ∃ g cap, e = .returned (.slice (some ⟨g, 0, none⟩) 512 cap) ∧ Fr (fun _ => False) w w' := by
  obtain ⟨bv, bt, qv, qt, V, V', h1, h2, h3, h4⟩ := h
  have hl := gath_length (N := 2) (G := fun k => V k 0) (fun k hk => h1.good.len (by constructor <;> omega) I64.zero) 2 (Nat.le_refl _)
  refine (image_good h1.good).mono ?_
  rintro e w' ⟨g, cap, rfl, _, _, _, hF⟩
  exact ⟨g, cap, by rw [hl], hF⟩

theorem full_has (w : World) (c : UInt8) : Calls Try.prog 15 #[.int .u8 (c.toNat : Int)] w fun e w' => ∃ g cap, e = .returned (.slice (some ⟨g, 0, none⟩) 256 cap) ∧ Has w' g (one c) ∧ Fr (fun _ => False) w w' := by
  refine (full_new w c).mono ?_
  rintro e w' ⟨g, cap, rfl, _, a2, a3, hF⟩
  exact ⟨g, cap, rfl, ⟨a2, a3⟩, hF⟩

theorem same_has {w : World} {g1 c1 g2 c2 : Nat} {c : UInt8} (h1 : Has w g1 (one c)) (h2 : Has w g2 (one c)) : Calls Try.prog 22 #[.slice (some ⟨g1, 0, none⟩) 256 c1, .slice (some ⟨g2, 0, none⟩) 256 c2] w fun e w' => e = .returned (.bool true) ∧ Fr (fun _ => False) w w' :=
  (same_yes w g1 c1 g2 c2 _ _ h1.2 h2.2 (one_length c) (one_length c) rfl).mono fun _ _ ⟨a, b⟩ => ⟨a, b.fr⟩

set_option maxRecDepth 100000 in
set_option maxHeartbeats 2000000 in
theorem works_any (w : World) : Calls Try.prog 37 #[] w fun e w' => e = .returned (.bool true) ∧ Fr (fun _ => False) w w' := by
  have HNEW := Lib.hid (new_good w 2 (by omega) (by omega))
  go_enter Try.func37, Try.ntmps37
  go_wp2_with fail
  refine (HNEW.out).mono ?_
  rintro e w1 ⟨pb, bv, bt, rfl, hg, p1, p2, p3, hF1⟩
  have W1 := Lib.hid (show WorkAt w w1 pb bv bt 0 0 0 _ _ from ⟨hg, p1, p2, p3, hF1⟩)
  clear hg p1 p2 p3 hF1 HNEW
  go_wp2_with fail
  refine (full_new w1 97).mono ?_
  rintro e w2 ⟨g2, k2, rfl, a1, a2, a3, hF2⟩
  have C3 := Lib.hid (W1.out.write (k := k2) (by omega) a1 a2 a3 hF2)
  clear a1 a2 a3 hF2
  go_wp2_with fail
  refine (C3.out).mono ?_
  rintro e w3 ⟨rfl, hw3⟩
  have C4 := Lib.hid (hw3.sync (by omega))
  clear hw3
  go_wp2_with fail
  refine (C4.out).mono ?_
  rintro e w4 ⟨rfl, bt4, V4, hw4, hV4⟩
  have e4 : V4 0 0 = one 97 := by
    rw [hV4 0 I64.zero, updT_at]
    exact upd_at _ _ _ _
  have W4 := Lib.hid hw4
  have E4 := Lib.hid e4
  clear hw4 hV4 e4 C3 C4 W1
  go_wp2_with fail
  refine (full_new w4 98).mono ?_
  rintro e w5 ⟨g5, k5, rfl, a1, a2, a3, hF5⟩
  have C6 := Lib.hid (W4.out.write (k := k5) (by omega) a1 a2 a3 hF5)
  clear a1 a2 a3 hF5
  go_wp2_with fail
  refine (C6.out).mono ?_
  rintro e w6 ⟨rfl, hw6⟩
  have W6 := Lib.hid hw6
  clear hw6 C6
  go_wp2_with fail
  refine (full_new w6 99).mono ?_
  rintro e w7 ⟨g7, k7, rfl, a1, a2, a3, hF7⟩
  have C8 := Lib.hid (W6.out.write (k := k7) (by omega) a1 a2 a3 hF7)
  clear a1 a2 a3 hF7
  go_wp2_with fail
  refine (C8.out).mono ?_
  rintro e w8 ⟨rfl, hw8⟩
  have hmid : WorkMid w pb w8 := ⟨bv, bt4, _, _, hw8, by simp [upd, updT]; exact E4.out, by simp [upd, updT], by simp [updT], fun s hs => by simp [updT, hs]⟩
  have HM := Lib.hid hmid
  clear hw8 hmid C8
  go_wp2_with fail
  refine (two_clone HM.out).mono ?_
  rintro e w9 ⟨qb, rfl, ha⟩
  have TA := Lib.hid ha
  have CP := Lib.hid (two_pending ha)
  have CO := Lib.hid (two_ops ha)
  have CC := Lib.hid (two_crash ha)
  clear ha HM E4 W4 W6
  go_wp2_with (first
    | (go_at_call 29; refine (CP.out).mono ?_; rintro e w' ⟨rfl, rfl⟩)
    | (go_at_call 31; refine (CO.out).mono ?_; rintro e w' ⟨rfl, rfl⟩)
    | fail)
  refine (CC.out).mono ?_
  rintro e w10 ⟨rfl, hb⟩
  have C11 := Lib.hid (two_crash2 hb)
  clear hb CP CO CC TA
  go_wp2_with fail
  refine (C11.out).mono ?_
  rintro e w11 ⟨rfl, hc⟩
  have C12 := Lib.hid (two_read hc)
  clear hc C11
  go_wp2_with fail
  refine (C12.out).mono ?_
  rintro e w12 ⟨g12, k12, rfl, hx12, hc12, hF12⟩
  have C13 := Lib.hid (two_read2 hc12)
  have X12 := Lib.hid hx12
  clear hx12 hc12 hF12 C12
  go_wp2_with fail
  refine (C13.out).mono ?_
  rintro e w13 ⟨g13, k13, rfl, hx13, hc13, hF13⟩
  have X13 := Lib.hid (show Has w13 g12 (one 98) ∧ Has w13 g13 (one 97) ∧ TwoC w pb qb w13 from ⟨X12.out.calm hF13, hx13, hc13⟩)
  clear hx13 hc13 hF13 C13 X12
  go_wp2_with fail
  refine (full_has w13 98).mono ?_
  rintro e w14 ⟨g14, k14, rfl, hx14, hF14⟩
  have C15 := Lib.hid (same_has (c1 := k12) (c2 := k14) (X13.out.1.calm hF14) hx14)
  have X14 := Lib.hid (show Has w14 g13 (one 97) ∧ TwoC w pb qb w14 from ⟨X13.out.2.1.calm hF14, X13.out.2.2.calm hF14⟩)
  clear hx14 hF14 X13
  go_wp2_with fail
  refine (C15.out).mono ?_
  rintro e w15 ⟨rfl, hF15⟩
  have X15 := Lib.hid (show Has w15 g13 (one 97) ∧ TwoC w pb qb w15 from ⟨X14.out.1.calm hF15, X14.out.2.calm hF15⟩)
  clear hF15 X14 C15
  go_wp2_with fail
  refine (full_has w15 97).mono ?_
  rintro e w16 ⟨g16, k16, rfl, hx16, hF16⟩
  have C17 := Lib.hid (same_has (c1 := k13) (c2 := k16) (X15.out.1.calm hF16) hx16)
  have X16 := Lib.hid (X15.out.2.calm hF16)
  clear hx16 hF16 X15
  go_wp2_with fail
  refine (C17.out).mono ?_
  rintro e w17 ⟨rfl, hF17⟩
  have X17 := Lib.hid (X16.out.calm hF17)
  have C18 := Lib.hid (two_image X17.out)
  clear hF17 X16 C17
  go_wp2_with fail
  refine (C18.out).mono ?_
  rintro e w18 ⟨g18, k18, rfl, hF18⟩
  have HE : Hid (Fr (fun _ => False) w w18) := by
    obtain ⟨_, _, _, _, _, _, h1, _⟩ := X17.out
    exact h1.fr.trans hF18 (fun _ _ e => e)
  clear hF18 C18
  go_wp2_with fail
  go_ret
  exact ⟨rfl, HE.out⟩

end Go.Proofs.Ytbmbibepcnpngaa
