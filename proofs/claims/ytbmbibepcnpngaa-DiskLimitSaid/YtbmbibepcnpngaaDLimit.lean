/-
  DiskLimit: a disk with a limit takes just so many operations, and does these as one without a limit does; then nothing goes, till a crash. No condition.
-/
import Derived.Test.YtbmbibepcnpngaaRows
import Derived.Test.YtbmbibepcnpngaaLim
import Derived.Deep.QuietTactic
import Derived.BigQuiet
import Derived.ProofKit
import Derived.Outline
namespace Go.Proofs.Ytbmbibepcnpngaa.diskLimit
open Go.ChangeShapes Go.WideShapes Go.ChangeAt Go.RowKit

abbrev mo0 : Mo := Mo.of (fun _ _ => noughts) (fun _ => 0)

/-- All that the walk knows as soon as the limit is set. -/
structure LS (w0 w : World) (pb bv bt qb qv qt N n : Nat) : Prop where
  dsk : LA w pb bv bt N n 0 0 mo0 w
  cln : Good w qb qv qt N 0 0 0 (-1) false (fun _ _ => noughts) (fun _ => 0)
  own : w0.heap.size ≤ pb ∧ w0.heap.size ≤ bv ∧ w0.heap.size ≤ bt
  mid : ∃ S, (pb < S ∧ bv < S ∧ bt < S) ∧ (S ≤ qb ∧ S ≤ qv ∧ S ≤ qt)
  fr : Fr (fun _ => False) w0 w

theorem LS.start {w0 w : World} {pb bv bt N n : Nat} (hg : Good w pb bv bt N 0 0 0 (-1) false (fun _ _ => noughts) (fun _ => 0)) (h0 : w0.heap.size ≤ pb ∧ w0.heap.size ≤ bv ∧ w0.heap.size ≤ bt) (hF : Fr (fun _ => False) w0 w) (hn : n ≤ 1000) :
    Calls Try.prog 28 #[.pointer (some ⟨pb, 0, none⟩)] w fun e w' => ∃ qb, e = .returned (.pointer (some ⟨qb, 0, none⟩)) ∧ ∀ w2, w2 = w' → Calls Try.prog 23 #[.pointer (some ⟨pb, 0, none⟩), .int .i64 n] w2 fun e w' => e = .returned (.tuple #[]) ∧ ∃ qv qt, LS w0 w' pb bv bt qb qv qt N n := by
  have hl := hg.lt
  refine (clone_good hg).mono ?_
  rintro e w' ⟨qb, qv, qt, rfl, hq, a1, a2, a3, hF2⟩
  refine ⟨qb, rfl, ?_⟩
  rintro w2 rfl
  refine (limit_good (hg.calm hF2) n hn).mono ?_
  rintro e w3 ⟨rfl, hg3, hF3⟩
  refine ⟨rfl, qv, qt, ⟨⟨bt, 0, 0, n, false, _, _, hg3, Or.inl rfl, fun _ _ => ⟨rfl, rfl⟩, Or.inl ⟨by omega, by omega, rfl, rfl⟩⟩, Fr.refl _ _⟩, hq.kept hF3 (by omega) (by omega) (by omega), h0, ⟨w.heap.size, hl, a1, a2, a3⟩, (hF.trans hF2 (fun _ _ e => e)).go hF3 (fun i e => by omega)⟩

theorem LS.cells {w0 w wr : World} {pb bv bt qb qv qt N n : Nat} (h : LS w0 w pb bv bt qb qv qt N n) (hF : Fr (fun i => i = pb ∨ i = bv ∨ i = bt) w wr) {blk off : Nat} {A : List ActD} (hA : ActsAt w0 blk off A) (hb : blk < w0.heap.size) {k : Nat} {a : ActD} (hk : A[k]? = some a) :
    wr.cell? ⟨blk, off + k * 5, none⟩ = some (.int .i64 a.what) ∧ wr.cell? ⟨blk, off + k * 5 + 1, none⟩ = some (.int .i64 a.where_) ∧ wr.cell? ⟨blk, off + k * 5 + 3, none⟩ = some (.int .u8 (a.fill.toNat : Int)) := by
  have ho := h.own
  exact hA.kept ((h.fr.go hF (fun i e => by omega)).block blk hb id) k a hk

/-- The clone does the same. -/
theorem LS.doIt {w0 w wr : World} {pb bv bt qb qv qt N n m B j : Nat} (h : LS w0 w pb bv bt qb qv qt N n) {A : List ActD} (hL : LA w pb bv bt N n m B (mo0.acts N (A.take j)) wr) (hB : B ≤ 1000) (hN : N ≤ 1000) (hj : j ≤ 200) {v : Value} (hA : ActsV w0 v (A.take j)) {dk : Bool} {ops : Int} (hd : (m ≤ n ∧ dk = false ∧ ops = m) ∨ (n < m ∧ dk = true ∧ ops = n)) :
    Calls Try.prog 38 #[.pointer (some ⟨qb, 0, none⟩), v] wr fun e w' => e = .returned (.tuple #[]) ∧ ∃ I J, TwoG w0 pb qb N I J dk ops w' := by
  obtain ⟨S, h1, h2⟩ := h.mid
  exact fin_do hL hB h.cln hN h.own h1 h2 h.fr hA (by rw [List.length_take]; omega) hd

set_option maxRecDepth 100000 in
set_option maxHeartbeats 16000000 in
theorem walk (a0 a2 a3 : Int) (p : Option Addr) (len cap : Nat) (A : List ActD) (w : World) (hlen : A.length = len) (hA : ActsV w (.slice p len cap) A) (hroom : len ≤ cap ∧ cap ≤ 9223372036854775807) :
    Calls Try.prog 6 #[.int .i64 a0, .slice p len cap, .int .i64 a2, .int .i64 a3] w fun e w' => e = .returned (.bool true) ∧ Fr (fun _ => False) w w' := by
  have HA := Lib.hid hA
  have ham := amongZ_in (n := a0) (m := 20) (by omega) (by omega)
  obtain ⟨z, hz⟩ : ∃ z, z = amongZ a0 20 := ⟨_, rfl⟩
  rw [← hz] at ham
  obtain ⟨N, hN⟩ : ∃ N : Nat, (N : Int) = 1 + z := ⟨(1 + z).toNat, by omega⟩
  have hNb : N ≤ 20 := by omega
  have hN1 : 1 ≤ N := by omega
  have HAM : Hid (∀ w, Calls Try.prog 14 #[.int .i64 a0, .int .i64 20] w fun e w' => e = .returned (.int .i64 z) ∧ w = w') := fun w => by rw [hz]; exact among_any w a0 20 (by omega) (by omega)
  have HNEW : Hid (∀ w, Calls Try.prog 9 #[.int .i64 (1 + z)] w fun e w' => NewGood w N e w') := fun w => by rw [← hN]; exact new_good w N (by omega) (by omega)
  have han := amongZ_in (n := a2) (m := 30) (by omega) (by omega)
  obtain ⟨n, hn⟩ : ∃ n : Nat, (n : Int) = amongZ a2 30 := ⟨(amongZ a2 30).toNat, by omega⟩
  rw [← hn] at han
  have hn30 : n < 30 := by omega
  have HAN : Hid (∀ w, Calls Try.prog 14 #[.int .i64 a2, .int .i64 30] w fun e w' => e = .returned (.int .i64 n) ∧ w = w') := fun w => by rw [hn]; exact among_any w a2 30 (by omega) (by omega)
  obtain ⟨s, hs⟩ : ∃ s, s = amongZ a3 N := ⟨_, rfl⟩
  have HSB : Hid (0 ≤ s ∧ s < N) := by rw [hs]; exact amongZ_in (by omega) (by omega)
  have HAT : Hid (∀ w, Calls Try.prog 14 #[.int .i64 a3, .int .i64 N] w fun e w' => e = .returned (.int .i64 s) ∧ w = w') := fun w => by rw [hs]; exact among_any w a3 N (by omega) (by omega)
  have HN0 : (0 : Int) < N := by omega
  have HN2 : (N : Int) ≤ 9223372036854775807 := by omega
  obtain ⟨hz0, hz1⟩ := ham
  obtain ⟨hrm, hcp⟩ := hroom
  have HLEN := Lib.hid hlen
  clear hA hz hN han hn hs hlen
  go_enter Try.func6, Try.ntmps6
  go_wp2_with fail
  refine (works_any w).mono ?_
  rintro e w1 ⟨rfl, hF1⟩
  have F1 := Lib.hid hF1
  clear hF1
  go_wp2_with fail
  refine (HAM.out _).mono ?_
  rintro e w' ⟨rfl, rfl⟩
  go_wp2_with fail
  refine (HNEW.out _).mono ?_
  rintro e w2 ⟨pb, bv, bt, rfl, hg, b1, b2, b3, hF2⟩
  have C3 := Lib.hid (LS.start (w0 := w) (n := n) hg ⟨Nat.le_trans F1.out.size b1, Nat.le_trans F1.out.size b2, Nat.le_trans F1.out.size b3⟩ (F1.out.trans hF2 (fun _ _ e => e)) (by omega))
  clear hg b1 b2 b3 hF2 F1
  go_wp2_with fail
  refine (HAN.out _).mono ?_
  rintro e w' ⟨rfl, rfl⟩
  go_wp2_with fail
  refine (C3.out).mono ?_
  rintro e w3 ⟨qb, rfl, hl3⟩
  have C4 := Lib.hid (hl3 w3 rfl)
  clear hl3 C3
  go_wp2_with fail
  refine (C4.out).mono ?_
  rintro e wl ⟨rfl, qv, qt, hs4⟩
  have S4 := Lib.hid hs4
  clear hs4 C4
  have h3 : A = [] ∨ (A ≠ [] ∧ len ≤ 100) ∨ 100 < len := by
    by_cases he : A = []
    · exact Or.inl he
    · rcases Nat.lt_or_ge 100 len with h | h
      · exact Or.inr (Or.inr h)
      · exact Or.inr (Or.inl ⟨he, h⟩)
  rcases h3 with he | ⟨he, hle⟩ | hbig
  case' inr.inl =>
    obtain ⟨blk, off, rfl, HK⟩ : ∃ blk off, p = some ⟨blk, off, none⟩ ∧ Hid (blk < w.heap.size ∧ ActsAt w blk off A) := by
      obtain ⟨p', cap', hv, _, ho⟩ := HA.out
      obtain ⟨blk, off, hp, hb, hacts⟩ := ho he
      simp only [Value.slice.injEq] at hv
      exact ⟨blk, off, hv.1.trans hp, Lib.hid ⟨hb, hacts⟩⟩
    have hl0 : 0 < len := by
      have := HLEN.out
      have := List.length_pos_iff.2 he
      omega
    have hle' : (len : Int) ≤ 100 := by omega
    clear he
    go_wp2_with fail
    generalize hmm : len = m
    have HM : Hid (m ≤ len) := Lib.hid (by omega)
    have hm100 : m ≤ 100 := by omega
    have hmcap : m ≤ cap := by omega
    have hcap0 : ¬ cap = 0 := by omega
    clear hmm hle' hle hrm hl0
  case' inr.inr =>
    obtain ⟨blk, off, rfl, HK⟩ : ∃ blk off, p = some ⟨blk, off, none⟩ ∧ Hid (blk < w.heap.size ∧ ActsAt w blk off A) := by
      obtain ⟨p', cap', hv, _, ho⟩ := HA.out
      obtain ⟨blk, off, hp, hb, hacts⟩ := ho (by rintro rfl; have := HLEN.out; simp at this; omega)
      simp only [Value.slice.injEq] at hv
      exact ⟨blk, off, hv.1.trans hp, Lib.hid ⟨hb, hacts⟩⟩
    have hle' : (100 : Int) < len := by omega
    have hcap1 : (100 : Int) ≤ cap := by omega
    have hcap0 : ¬ cap = 0 := by omega
    go_wp2_with fail
    generalize hmm : (100 : Nat) = m
    have HM : Hid (m ≤ len) := Lib.hid (by omega)
    have hm100 : m ≤ 100 := by omega
    have hmcap : m ≤ cap := by omega
    clear hmm hle' hrm hcap1 hbig
  case inl =>
    subst he
    obtain rfl : len = 0 := HLEN.out.symm
    have HDO := Lib.hid (fun p' cap' => S4.out.doIt (A := []) (j := 0) (B := 0) (m := 0) (v := .slice p' 0 cap') S4.out.dsk (by omega) (by omega) (by omega) ⟨p', cap', rfl, by simp, fun h => absurd rfl h⟩ (dk := false) (ops := 0) (Or.inl ⟨by omega, rfl, rfl⟩))
    have hn0 : (0 : Int) ≤ n := by omega
    have hc0 : (0 : Int) ≤ cap := by omega
    have hmin : min (n : Int) 0 = 0 := by omega
    go_wp2_with fail
    refine wp_loop_rounds 1 ?_
    rw [rounds_succ]
    go_wp2_with fail
    refine (HDO.out _ _).mono ?_
    rintro e w5 ⟨rfl, I, J, hg5⟩
    have G5 := Lib.hid hg5
    clear hg5 HDO
    go_wp2_with fail
    refine (G5.out.sectors).mono ?_
    rintro e w' ⟨rfl, rfl⟩
    go_wp2_with fail
    refine (HAT.out _).mono ?_
    rintro e w' ⟨rfl, rfl⟩
    go_wp2_with fail
    refine (G5.out.read (f := 0) (Or.inr ⟨rfl, rfl⟩) s HSB.out.1 HSB.out.2).mono ?_
    rintro e w6 ⟨v6, rfl, hg6⟩
    have G6 := Lib.hid hg6
    clear hg6 G5
    go_wp2_with fail
    refine (G6.out.imageQ).mono ?_
    rintro e w7 ⟨⟨g7, k7, rfl, hh7, hl7, _⟩, hg7⟩
    have G7 := Lib.hid hg7
    have H7 := Lib.hid hh7
    have L7 := Lib.hid hl7
    clear hg7 hh7 hl7 G6
    go_wp2_with fail
    refine (G7.out.imageP).mono ?_
    rintro e w8 ⟨⟨g8, k8, rfl, hh8, _, hF8⟩, hg8⟩
    have C8 := Lib.hid (diskSynced.same_img (c1 := k7) (c2 := k8) (H7.out.calm hF8) hh8 L7.out (by omega))
    have G8 := Lib.hid hg8
    clear hg8 hh8 hF8 G7 H7 L7
    go_wp2_with fail
    refine (C8.out).mono ?_
    rintro e w9 ⟨rfl, hF9⟩
    have G9 := Lib.hid (G8.out.calm hF9)
    clear hF9 G8 C8
    go_wp2_with fail
    refine (G9.out.sureQ).mono ?_
    rintro e w10 ⟨⟨g10, k10, rfl, hh10, hl10, _⟩, hg10⟩
    have G10 := Lib.hid hg10
    have H10 := Lib.hid hh10
    have L10 := Lib.hid hl10
    clear hg10 hh10 hl10 G9
    go_wp2_with fail
    refine (G10.out.sureP).mono ?_
    rintro e w11 ⟨⟨g11, k11, rfl, hh11, _, hF11⟩, hg11⟩
    have C11 := Lib.hid (diskSynced.same_img (c1 := k10) (c2 := k11) (H10.out.calm hF11) hh11 L10.out (by omega))
    have G11 := Lib.hid hg11
    clear hg11 hh11 hF11 G10 H10 L10
    go_wp2_with fail
    refine (C11.out).mono ?_
    rintro e w12 ⟨rfl, hF12⟩
    have G12 := Lib.hid (G11.out.calm hF12)
    clear hF12 G11 C11
    go_wp2_with fail
    refine (G12.out.opsOf).mono ?_
    rintro e w' ⟨rfl, rfl⟩
    go_wp2_with fail
    refine (G12.out.crash).mono ?_
    rintro e w13 ⟨rfl, hc13⟩
    have C13 := Lib.hid (hc13 w13 rfl)
    clear hc13 G12
    go_wp2_with fail
    refine (C13.out).mono ?_
    rintro e w14 ⟨rfl, hF14⟩
    have F14 := Lib.hid hF14
    clear hF14 C13
    go_wp2_with fail
    go_ret
    exact ⟨rfl, F14.out⟩
  all_goals
    go_loopw [12] (fun i wr => ∃ k : Nat, k ≤ m ∧ i = .int .i64 k ∧ Hid (LA wl pb bv bt N n k (2 * k) (mo0.acts N (A.take (min n k))) wr)) (fun i _ => m - (intOf i).toNat)
    case atStart => exact ⟨0, Nat.zero_le _, rfl, by rw [Nat.min_zero, List.take_zero]; exact Lib.hid S4.out.dsk⟩
    case round =>
      obtain ⟨k, hk, rfl, HD⟩ := hrel
      by_cases hlt : k < m
      · obtain ⟨a, ha⟩ : ∃ a, A[k]? = some a := ⟨_, List.getElem?_eq_getElem (by have := HLEN.out; have := HM.out; omega)⟩
        obtain ⟨d0, d1, d3⟩ := S4.out.cells HD.out.fr HK.out.2 HK.out.1 ha
        obtain ⟨f, hf⟩ : ∃ f : Int, (k < n ∧ f = 0) ∨ (n ≤ k ∧ f = 10) := by
          rcases Nat.lt_or_ge k n with h | h
          · exact ⟨0, Or.inl ⟨h, rfl⟩⟩
          · exact ⟨10, Or.inr ⟨h, rfl⟩⟩
        have HF := Lib.hid hf
        have HT0 := Lib.hid ha
        have h0 : (0 : Int) ≤ k := by omega
        have h1 : (k : Int) < m := by omega
        clear ha hf
        by_cases hs : amongZ a.what 4 = 3
        · have hb : (amongZ a.what 4 == 3) = true := by rw [hs]; rfl
          have HS := Lib.hid (HD.out.sync (by omega) HF.out)
          have HE := Lib.hid (acts_step_sync (M := mo0) (N := N) (n := n) HT0.out hs)
          clear hs
          go_wp2_with (first
            | (go_at_call 14; refine (among_any _ _ 4 (by omega) (by omega)).mono ?_; rintro e w' ⟨rfl, rfl⟩)
            | (go_at_call 18; refine (HS.out).mono ?_; rintro e w5 ⟨rfl, hd5⟩; have HD5 := Lib.hid hd5; clear hd5; obtain ⟨hkn, rfl⟩ | ⟨hkn, rfl⟩ := HF.out))
          all_goals
            go_roundw
            case rel => exact ⟨k + 1, by omega, by go_num, by have h5 := HD5.out; rw [HE.out] at h5; exact Lib.hid h5⟩
            case measure => simp [intOf]; omega
        · have hb : (amongZ a.what 4 == 3) = false := by simpa using hs
          have HR := Lib.hid (show 0 ≤ amongZ a.where_ N ∧ amongZ a.where_ N < N from amongZ_in (by omega) (by omega))
          have HE := Lib.hid (acts_step_write (M := mo0) (N := N) (n := n) HT0.out hs)
          clear hs
          go_wp2_with (first
            | (go_at_call 14; refine (among_any _ _ 4 (by omega) (by omega)).mono ?_; rintro e w' ⟨rfl, rfl⟩)
            | fail)
          have HK6 : Hid (∀ w', Fr (fun _ => False) wr w' → w'.cell? ⟨blk, off + k * 5 + 1, none⟩ = some (.int .i64 a.where_) ∧ w'.cell? ⟨blk, off + k * 5 + 3, none⟩ = some (.int .u8 (a.fill.toNat : Int)) ∧ w'.cell? ⟨pb, 0, none⟩ = some (.int .i64 N)) := fun w' hF => by
            have hc := S4.out.cells (HD.out.calm hF).fr HK.out.2 HK.out.1 HT0.out
            exact ⟨hc.2.1, hc.2.2, (HD.out.calm hF).cell0⟩
          have HK9 : Hid (∀ w', LA wl pb bv bt N n (k + 1) (2 * k + 2) (if k < n then (mo0.acts N (A.take (min n k))).write (amongZ a.where_ N) (one a.fill) else mo0.acts N (A.take (min n k))) w' → w'.cell? ⟨blk, off + k * 5 + 1, none⟩ = some (.int .i64 a.where_) ∧ w'.cell? ⟨blk, off + k * 5 + 3, none⟩ = some (.int .u8 (a.fill.toNat : Int)) ∧ w'.cell? ⟨pb, 0, none⟩ = some (.int .i64 N)) := fun w' hd => by
            have hc := S4.out.cells hd.fr HK.out.2 HK.out.1 HT0.out
            exact ⟨hc.2.1, hc.2.2, hd.cell0⟩
          have HW : Hid (∀ g kk w6, wr.heap.size ≤ g → g < w6.heap.size → Reads w6 g 0 (one a.fill) → Fr (fun _ => False) wr w6 → Calls Try.prog 16 #[.pointer (some ⟨pb, 0, none⟩), .int .i64 (amongZ a.where_ N), .slice (some ⟨g, 0, none⟩) 256 kk] w6 fun e w' => e = .returned (.int .i64 f) ∧ LA wl pb bv bt N n (k + 1) (2 * k + 2) (if k < n then (mo0.acts N (A.take (min n k))).write (amongZ a.where_ N) (one a.fill) else mo0.acts N (A.take (min n k))) w') := fun g kk w6 b1 b2 b3 b4 =>
            HD.out.write (kk := kk) (by omega) HF.out HR.out.1 HR.out.2 b1 b2 b3 b4
          clear d0 hb
          go_region_held3 (fun w' => w'.cell? ⟨blk, off + k * 5 + 1, none⟩ = some (.int .i64 a.where_) ∧ w'.cell? ⟨blk, off + k * 5 + 3, none⟩ = some (.int .u8 (a.fill.toNat : Int)) ∧ w'.cell? ⟨pb, 0, none⟩ = some (.int .i64 N))
            (first
              | exact HK6.out _ (Fr.refl _ _).drew
              | exact HK6.out _ HG6.out.2.2.2
              | exact HK9.out _ HD9.out)
            (first
              | (go_at_call 32; refine (sectors_cell pb N HN0 _ ?_).mono ?_; (first | exact (HK6.out _ (Fr.refl _ _).drew).2.2 | exact (HK6.out _ HG6.out.2.2.2).2.2); rintro e w' ⟨rfl, rfl⟩)
              | (go_at_call 14; refine (among_any _ _ _ (by omega) HN2).mono ?_; rintro e w' ⟨rfl, rfl⟩)
              | (go_at_call 15; refine (full_at wr _ a.fill ?_).mono ?_; exact (Fr.refl _ _).drew; rintro e w6 ⟨g, k6, rfl, a1, a2, a3, a4⟩; have HG6 := Lib.hid (show wr.heap.size ≤ g ∧ g < w6.heap.size ∧ Reads w6 g 0 (one a.fill) ∧ Fr (fun _ => False) wr w6 from ⟨a1, a2, a3, a4⟩); clear a1 a2 a3 a4)
              | (go_at_call 16; refine (HW.out _ _ _ HG6.out.1 HG6.out.2.1 HG6.out.2.2.1 HG6.out.2.2.2).mono ?_; rintro e w9 ⟨rfl, hd9⟩; have HD9 := Lib.hid hd9; clear hd9))
          all_goals
            obtain ⟨hkn, rfl⟩ | ⟨hkn, rfl⟩ := HF.out
            all_goals
              go_wp2
              go_roundw
              case rel => exact ⟨k + 1, by omega, by go_num, by have h5 := HD9.out; rw [HE.out] at h5; exact Lib.hid h5⟩
              case measure => simp [intOf]; omega
      · have hkm : k = m := by omega
        subst hkm
        clear hlt
        obtain ⟨j, hj⟩ : ∃ j, j = min n k := ⟨_, rfl⟩
        have hmin : min (n : Int) (k : Int) = j := by omega
        have hjc : (j : Int) ≤ cap := by omega
        have hj200 : j ≤ 200 := by omega
        have HV := Lib.hid (HA.out.firsts HLEN.out j cap (by have := HM.out; omega))
        have hD := HD.out
        rw [← hj] at hD
        by_cases hg : n < k
        · have hgt : (n : Int) < k := by omega
          have hjn : (j : Int) = n := by omega
          have HDO := Lib.hid (S4.out.doIt (v := .slice (some ⟨blk, off, none⟩) j cap) hD (by omega) (by omega) hj200 HV.out (dk := true) (ops := j) (Or.inr ⟨hg, rfl, hjn⟩))
          clear hD hj hjn hg HD
          go_wp2_with fail
          refine (HDO.out).mono ?_
          rintro e w5 ⟨rfl, I, J, hg5⟩
          have G5 := Lib.hid hg5
          clear hg5 HDO
          go_wp2_with fail
          refine (G5.out.sectors).mono ?_
          rintro e w' ⟨rfl, rfl⟩
          go_wp2_with fail
          refine (HAT.out _).mono ?_
          rintro e w' ⟨rfl, rfl⟩
          go_wp2_with fail
          refine (G5.out.read (f := 10) (Or.inl ⟨rfl, rfl⟩) s HSB.out.1 HSB.out.2).mono ?_
          rintro e w6 ⟨v6, rfl, hg6⟩
          have G6 := Lib.hid hg6
          clear hg6 G5
          go_wp2_with fail
          refine (G6.out.imageQ).mono ?_
          rintro e w7 ⟨⟨g7, k7, rfl, hh7, hl7, _⟩, hg7⟩
          have G7 := Lib.hid hg7
          have H7 := Lib.hid hh7
          have L7 := Lib.hid hl7
          clear hg7 hh7 hl7 G6
          go_wp2_with fail
          refine (G7.out.imageP).mono ?_
          rintro e w8 ⟨⟨g8, k8, rfl, hh8, _, hF8⟩, hg8⟩
          have C8 := Lib.hid (diskSynced.same_img (c1 := k7) (c2 := k8) (H7.out.calm hF8) hh8 L7.out (by omega))
          have G8 := Lib.hid hg8
          clear hg8 hh8 hF8 G7 H7 L7
          go_wp2_with fail
          refine (C8.out).mono ?_
          rintro e w9 ⟨rfl, hF9⟩
          have G9 := Lib.hid (G8.out.calm hF9)
          clear hF9 G8 C8
          go_wp2_with fail
          refine (G9.out.sureQ).mono ?_
          rintro e w10 ⟨⟨g10, k10, rfl, hh10, hl10, _⟩, hg10⟩
          have G10 := Lib.hid hg10
          have H10 := Lib.hid hh10
          have L10 := Lib.hid hl10
          clear hg10 hh10 hl10 G9
          go_wp2_with fail
          refine (G10.out.sureP).mono ?_
          rintro e w11 ⟨⟨g11, k11, rfl, hh11, _, hF11⟩, hg11⟩
          have C11 := Lib.hid (diskSynced.same_img (c1 := k10) (c2 := k11) (H10.out.calm hF11) hh11 L10.out (by omega))
          have G11 := Lib.hid hg11
          clear hg11 hh11 hF11 G10 H10 L10
          go_wp2_with fail
          refine (C11.out).mono ?_
          rintro e w12 ⟨rfl, hF12⟩
          have G12 := Lib.hid (G11.out.calm hF12)
          clear hF12 G11 C11
          go_wp2_with fail
          refine (G12.out.opsOf).mono ?_
          rintro e w' ⟨rfl, rfl⟩
          go_wp2_with fail
          refine (G12.out.crash).mono ?_
          rintro e w13 ⟨rfl, hc13⟩
          have C13 := Lib.hid (hc13 w13 rfl)
          clear hc13 G12
          go_wp2_with fail
          refine (C13.out).mono ?_
          rintro e w14 ⟨rfl, hF14⟩
          have F14 := Lib.hid hF14
          clear hF14 C13
          go_wp2_with fail
          go_ret
          exact ⟨rfl, F14.out⟩
        · have hgt : (k : Int) ≤ n := by omega
          have hgn : decide (n < k) = false := decide_eq_false hg
          have hjn : (j : Int) = k := by omega
          have HDO := Lib.hid (S4.out.doIt (v := .slice (some ⟨blk, off, none⟩) j cap) hD (by omega) (by omega) hj200 HV.out (dk := false) (ops := j) (Or.inl ⟨by omega, rfl, hjn⟩))
          clear hD hj hjn hg HD
          go_wp2_with fail
          refine (HDO.out).mono ?_
          rintro e w5 ⟨rfl, I, J, hg5⟩
          have G5 := Lib.hid hg5
          clear hg5 HDO
          go_wp2_with fail
          refine (G5.out.sectors).mono ?_
          rintro e w' ⟨rfl, rfl⟩
          go_wp2_with fail
          refine (HAT.out _).mono ?_
          rintro e w' ⟨rfl, rfl⟩
          go_wp2_with fail
          refine (G5.out.read (f := 0) (Or.inr ⟨rfl, rfl⟩) s HSB.out.1 HSB.out.2).mono ?_
          rintro e w6 ⟨v6, rfl, hg6⟩
          have G6 := Lib.hid hg6
          clear hg6 G5
          go_wp2_with fail
          refine (G6.out.imageQ).mono ?_
          rintro e w7 ⟨⟨g7, k7, rfl, hh7, hl7, _⟩, hg7⟩
          have G7 := Lib.hid hg7
          have H7 := Lib.hid hh7
          have L7 := Lib.hid hl7
          clear hg7 hh7 hl7 G6
          go_wp2_with fail
          refine (G7.out.imageP).mono ?_
          rintro e w8 ⟨⟨g8, k8, rfl, hh8, _, hF8⟩, hg8⟩
          have C8 := Lib.hid (diskSynced.same_img (c1 := k7) (c2 := k8) (H7.out.calm hF8) hh8 L7.out (by omega))
          have G8 := Lib.hid hg8
          clear hg8 hh8 hF8 G7 H7 L7
          go_wp2_with fail
          refine (C8.out).mono ?_
          rintro e w9 ⟨rfl, hF9⟩
          have G9 := Lib.hid (G8.out.calm hF9)
          clear hF9 G8 C8
          go_wp2_with fail
          refine (G9.out.sureQ).mono ?_
          rintro e w10 ⟨⟨g10, k10, rfl, hh10, hl10, _⟩, hg10⟩
          have G10 := Lib.hid hg10
          have H10 := Lib.hid hh10
          have L10 := Lib.hid hl10
          clear hg10 hh10 hl10 G9
          go_wp2_with fail
          refine (G10.out.sureP).mono ?_
          rintro e w11 ⟨⟨g11, k11, rfl, hh11, _, hF11⟩, hg11⟩
          have C11 := Lib.hid (diskSynced.same_img (c1 := k10) (c2 := k11) (H10.out.calm hF11) hh11 L10.out (by omega))
          have G11 := Lib.hid hg11
          clear hg11 hh11 hF11 G10 H10 L10
          go_wp2_with fail
          refine (C11.out).mono ?_
          rintro e w12 ⟨rfl, hF12⟩
          have G12 := Lib.hid (G11.out.calm hF12)
          clear hF12 G11 C11
          go_wp2_with fail
          refine (G12.out.opsOf).mono ?_
          rintro e w' ⟨rfl, rfl⟩
          go_wp2_with fail
          refine (G12.out.crash).mono ?_
          rintro e w13 ⟨rfl, hc13⟩
          have C13 := Lib.hid (hc13 w13 rfl)
          clear hc13 G12
          go_wp2_with fail
          refine (C13.out).mono ?_
          rintro e w14 ⟨rfl, hF14⟩
          have F14 := Lib.hid hF14
          clear hF14 C13
          go_wp2_with fail
          go_ret
          exact ⟨rfl, F14.out⟩

/-! ### the row -/
theorem own : ownKnob Try.prog.godebug = none := by kernel_rfl

set_option maxRecDepth 100000 in
theorem lifted (os : Os) (started : os.Started) (H : Type) (enc : TypeId × Value → H) :
    ReturnsInHanded {} Try.checked os 6 .any (Rows.diskLimitSpec.pre6 enc Try.prog Try.f6 Rows.diskLimitRow.domain false) (Rows.diskLimitSpec.post enc Try.prog Try.f6 false true false false) := by
  refine returnsInHanded_of_change (C := Try.checked) own started (by kernel_rfl) Try.func6
    (ChangeSpec.witness6 (enc := enc) (C := Try.checked) false ⟨#[], #[.int .i64 0, .slice none 0 0, .int .i64 0, .int .i64 0], []⟩ 8 (by kernel_rfl) (by kernel_rfl) (by kernel_rfl) (by kernel_rfl)) ?_
  intro W base args ds gs before hval0 hW _ _
  have hval : ∀ (j : Nat) t v, Try.f6.params[j]? = some t → args[j]? = some v → Value.okWide Try.prog W .any base t v := hval0
  have hW' := hW
  obtain ⟨p, q, hA0, hV, rfl, hfz, hnd⟩ := hW
  have hA : DataW.TrodAll enc Try.prog W 0 (fun _ => true) true Try.f6.params.toList args.toList ds p := hA0
  rw [Try.params6] at hA hval
  obtain ⟨v0, vs0, d0, ds0, p0, q0, hargs, rfl, rfl, h0, r0⟩ := trodAll_cons hA
  obtain ⟨v1, vs1, d1, ds1, p1, q1, rfl, rfl, rfl, h1, r1⟩ := trodAll_cons r0
  obtain ⟨v2, vs2, d2, ds2, p2, q2, rfl, rfl, rfl, h2, r2⟩ := trodAll_cons r1
  obtain ⟨v3, vs3, d3, ds3, p3, q3, rfl, rfl, rfl, h3, r3⟩ := trodAll_cons r2
  obtain ⟨rfl, rfl, rfl⟩ := trodAll_nil r3
  obtain rfl : args = #[v0, v1, v2, v3] := by cases args; simp_all
  obtain ⟨rfl, rfl⟩ := trodVars_none hV
  obtain ⟨a0, rfl, rfl, rfl, w0⟩ := open_int Try.underlying3 (hval 0 3 v0 rfl rfl) h0
  obtain ⟨a1, len1, cap1, rfl⟩ := okWide_slice Try.underlying23 (hval 1 23 v1 rfl rfl)
  obtain ⟨a2, rfl, rfl, rfl, w2⟩ := open_int Try.underlying3 (hval 2 3 v2 rfl rfl) h2
  obtain ⟨a3, rfl, rfl, rfl, w3⟩ := open_int Try.underlying3 (hval 3 3 v3 rfl rfl) h3
  obtain ⟨A, hAl, hAc⟩ := acts_open (fun _ => rfl) h1
  clear hA0 hval0
  simp only [List.append_nil, List.nil_append] at hW' 
  have hlt1 : ∀ x ∈ p1, x.block < W.heap.size := fun x hx => by simpa using hW'.lt x (by simp [hx])
  refine (walk a0 a2 a3 _ _ _ A W hAl hAc (acts_room h1)).mono fun e W' ⟨he, hg⟩ => ?_
  subst he
  have hB : Below W.heap.size W W' := hg.below (Nat.le_refl _) (fun _ _ e => e.elim)
  have t1 := Below.trod laidOut (by kernel_rfl) (of_decide_eq_true (by kernel_rfl)) h1 hB hlt1
  exact ⟨_, rfl, _, _, _, [], _, [], hW', trodAll_cons_mk (shut_bool Try.underlying4 _) trodAll_mk0, trodAll_cons_mk (shut_int Try.underlying3 w0) (trodAll_cons_mk t1 (trodAll_cons_mk (shut_int Try.underlying3 w2) (trodAll_cons_mk (shut_int Try.underlying3 w3) trodAll_mk0))), rfl, hB.frame _, fun h => by cases h⟩

theorem over : Rows.diskLimitRow.holds Try.pinned (OpenSpec.ofChange Rows.diskLimitSpec) :=
  OpenClaim.holds_of_wide 6 Try.f6 rfl rfl rfl rfl rfl rfl rfl ⟨rfl, rfl, rfl, rfl, rfl⟩ rfl rfl rfl rfl rfl (by kernel_rfl) Try.func6 (by kernel_rfl)
    (of_decide_eq_true (by kernel_rfl)) (by unfold Func.isWrapper; first | (rw [if_pos (by decide +kernel)]; kernel_rfl) | (rw [if_neg (by decide +kernel)]; exact ⟨rfl, rfl⟩))
    (fun os started H enc _ => lifted os started H enc)

theorem proved : Rows.DiskLimitSaid :=
  over
#print axioms proved


end Go.Proofs.Ytbmbibepcnpngaa.diskLimit
