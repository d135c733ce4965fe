/-
  DiskApart: what happens to one sector changes nothing of another one, whatever the calls and the picks. No condition.
-/
import Derived.Test.YtbmbibepcnpngaaRows
import Derived.Test.YtbmbibepcnpngaaOpen
import Derived.Deep.QuietTactic
import Derived.BigQuiet
import Derived.ProofKit
import Derived.Outline
namespace Go.Proofs.Ytbmbibepcnpngaa.diskApart
open Go.ChangeShapes Go.WideShapes Go.ChangeAt Go.RowKit

/-- Sector a holds sevens, surely, and was not written since. -/
structure AP (w0 : World) (pb N : Nat) (a : Int) (B : Nat) (w : World) : Prop where
  ex : ∃ bv bt c ops V T, Good w pb bv bt N B c ops (-1) false V T ∧ (w0.heap.size ≤ pb ∧ w0.heap.size ≤ bv ∧ w0.heap.size ≤ bt) ∧ T a = 0 ∧ V a 0 = one 7
  fr : Fr (fun _ => False) w0 w

theorem AP.calm {w0 w w' : World} {pb N B : Nat} {a : Int} (h : AP w0 pb N a B w) (hF : Fr (fun _ => False) w w') : AP w0 pb N a B w' := by
  obtain ⟨bv, bt, c, ops, V, T, hg, h1, h2, h3⟩ := h.ex
  exact ⟨⟨bv, bt, c, ops, V, T, hg.calm hF, h1, h2, h3⟩, h.fr.trans hF (fun _ _ e => e)⟩

theorem AP.big {w0 w : World} {pb N B B' : Nat} {a : Int} (h : AP w0 pb N a B w) (hB : B ≤ B') (hs : B' ≤ 100000000) : AP w0 pb N a B' w := by
  obtain ⟨bv, bt, c, ops, V, T, hg, h1, h2, h3⟩ := h.ex
  exact ⟨⟨bv, bt, c, ops, V, T, hg.big hB hs, h1, h2, h3⟩, h.fr⟩

theorem AP.cell0 {w0 w : World} {pb N B : Nat} {a : Int} (h : AP w0 pb N a B w) : w.cell? ⟨pb, 0, none⟩ = some (.int .i64 N) := by
  obtain ⟨bv, bt, c, ops, V, T, hg, _⟩ := h.ex
  obtain ⟨nv, nt, hd, _, _⟩ := hg.disk
  exact hd.blk.c0

theorem AP.sync {w0 w : World} {pb N B : Nat} {a : Int} (h : AP w0 pb N a B w) (ha : I64 a) (hB : B + 2 ≤ 100000000) : Calls Try.prog 18 #[.pointer (some ⟨pb, 0, none⟩)] w fun e w' => e = .returned (.int .i64 0) ∧ AP w0 pb N a (B + 2) w' := by
  obtain ⟨bv, bt, c, ops, V, T, hg, h1, h2, h3⟩ := h.ex
  refine (sync_free hg hB).mono ?_
  rintro e w' ⟨rfl, bt', V', hg', hV, hlt, hF⟩
  exact ⟨rfl, ⟨bv, bt', _, _, V', _, hg', ⟨h1.1, h1.2.1, Nat.le_trans h.fr.size hlt⟩, rfl, by rw [hV a ha, h2, h3]⟩, h.fr.go hF (fun i e => by omega)⟩

theorem AP.write {w0 w w1 : World} {pb N B : Nat} {a : Int} (h : AP w0 pb N a B w) (hB : B + 2 ≤ 100000000) {g k : Nat} {x : UInt8} {s : Int} (hs : s ≠ a) (h0 : 0 ≤ s) (hN : s < N) (hg1 : w.heap.size ≤ g) (hg2 : g < w1.heap.size) (hr : Reads w1 g 0 (one x)) (hF : Fr (fun _ => False) w w1) :
    Calls Try.prog 16 #[.pointer (some ⟨pb, 0, none⟩), .int .i64 s, .slice (some ⟨g, 0, none⟩) 256 k] w1 fun e w' => e = .returned (.int .i64 0) ∧ AP w0 pb N a (B + 2) w' := by
  obtain ⟨bv, bt, c, ops, V, T, hg, h1, h2, h3⟩ := h.ex
  have hl := hg.lt
  have hn1 := hg.n1
  refine (write_free (hg.calm hF) hB s h0 hN g 0 k (one x) (one_length x) hg2 hr (by omega) (by omega) (by omega)).mono ?_
  rintro e w' ⟨rfl, hg', hF'⟩
  exact ⟨rfl, ⟨bv, bt, _, _, _, _, hg', h1, by rw [updT_ne _ (Ne.symm hs)]; exact h2, by rw [upd_ne _ _ (fun e => hs e.1.symm)]; exact h3⟩, (h.fr.trans hF (fun _ _ e => e)).go hF' (fun i e => by omega)⟩

/-- The disk with its seven, as it is made. -/
theorem AP.start {w0 w : World} {pb bv bt N : Nat} {a : Int} (hg : Good w pb bv bt N 0 0 0 (-1) false (fun _ _ => noughts) (fun _ => 0)) (h1 : w0.heap.size ≤ pb ∧ w0.heap.size ≤ bv ∧ w0.heap.size ≤ bt) (hF : Fr (fun _ => False) w0 w) (h0 : 0 ≤ a) (hN : a < N)
    {w1 : World} {g k : Nat} (hg1 : w.heap.size ≤ g) (hg2 : g < w1.heap.size) (hr : Reads w1 g 0 (one 7)) (hF1 : Fr (fun _ => False) w w1) :
    Calls Try.prog 16 #[.pointer (some ⟨pb, 0, none⟩), .int .i64 a, .slice (some ⟨g, 0, none⟩) 256 k] w1 fun e w' => e = .returned (.int .i64 0) ∧ ∀ w2, w2 = w' → Calls Try.prog 18 #[.pointer (some ⟨pb, 0, none⟩)] w2 fun e w' => e = .returned (.int .i64 0) ∧ AP w0 pb N a 4 w' := by
  have hl := hg.lt
  have hn1 := hg.n1
  have hs : I64 a := by constructor <;> omega
  refine (write_free (hg.calm hF1) (by omega) a h0 hN g 0 k (one 7) (one_length 7) hg2 hr (by omega) (by omega) (by omega)).mono ?_
  rintro e w' ⟨rfl, hg', hF'⟩
  refine ⟨rfl, ?_⟩
  rintro w2 rfl
  refine (sync_free hg' (by omega)).mono ?_
  rintro e w3 ⟨rfl, bt', V', hg3, hV, hlt, hF3⟩
  have hfr := (hF.trans hF1 (fun _ _ e => e)).go hF' (fun i e => by omega)
  exact ⟨rfl, ⟨bv, bt', _, _, V', _, hg3, ⟨h1.1, h1.2.1, Nat.le_trans hfr.size hlt⟩, rfl, by rw [hV a hs, updT_at, upd_at]⟩, hfr.go hF3 (fun i e => by omega)⟩

/-- .. with a slice of sevens beside it. -/
def APg (w0 : World) (pb N g : Nat) (a : Int) (w : World) : Prop :=
  ∃ bv bt B c ops V T, Good w pb bv bt N B c ops (-1) false V T ∧ (w0.heap.size ≤ pb ∧ w0.heap.size ≤ bv ∧ w0.heap.size ≤ bt) ∧ T a = 0 ∧ V a 0 = one 7 ∧ Fr (fun _ => False) w0 w ∧ Has w g (one 7) ∧ g ≠ pb ∧ g ≠ bv

theorem AP.read {w0 w : World} {pb N B : Nat} {a : Int} (h : AP w0 pb N a B w) (h0 : 0 ≤ a) (hN : a < N) : Calls Try.prog 20 #[.pointer (some ⟨pb, 0, none⟩), .int .i64 a] w fun e w' => ∃ g cap, e = .returned (.tuple #[.slice (some ⟨g, 0, none⟩) 256 cap, .int .i64 0]) ∧ APg w0 pb N g a w' := by
  obtain ⟨bv, bt, c, ops, V, T, hg, h1, h2, h3⟩ := h.ex
  have hl := hg.lt
  refine (read_new hg a h0 hN).mono ?_
  rintro e w' ⟨g, cap, rfl, a1, a2, a3, hF⟩
  rw [h2, h3] at a3
  exact ⟨g, cap, rfl, bv, bt, B, c, ops, V, T, hg.calm hF, h1, h2, h3, h.fr.trans hF (fun _ _ e => e), ⟨a2, a3⟩, by omega, by omega⟩

theorem APg.crash {w0 w : World} {pb N g : Nat} {a : Int} (h : APg w0 pb N g a w) {v : Value} {L : List Int} (hp : IntsV w0 v L) : Calls Try.prog 25 #[.pointer (some ⟨pb, 0, none⟩), v] w fun e w' => e = .returned (.int .i64 0) ∧ APg w0 pb N g a w' := by
  obtain ⟨bv, bt, B, c, ops, V, T, hg, h1, h2, h3, h4, h5, h6⟩ := h
  refine (crash_good hg v L (hp.picks h4 h1.2.1)).mono ?_
  rintro e w' ⟨rfl, bt', V', L', hg', hR, _, _, hV, hlt, hF⟩
  have hna : a ∉ L' := fun hm => by
    have := ((hR.mem a).1 hm).2
    omega
  exact ⟨rfl, bv, bt', _, _, _, V', _, hg', ⟨h1.1, h1.2.1, Nat.le_trans h4.size hlt⟩, rfl, (hV a hna).trans h3, h4.go hF (fun i e => by omega), ⟨Nat.lt_of_lt_of_le h5.1 hF.size, h5.2.kept hF h5.1 (by omega)⟩, h6⟩

theorem APg.read {w0 w : World} {pb N g : Nat} {a : Int} (h : APg w0 pb N g a w) (h0 : 0 ≤ a) (hN : a < N) : Calls Try.prog 20 #[.pointer (some ⟨pb, 0, none⟩), .int .i64 a] w fun e w' => ∃ g2 cap, e = .returned (.tuple #[.slice (some ⟨g2, 0, none⟩) 256 cap, .int .i64 0]) ∧ Has w' g (one 7) ∧ Has w' g2 (one 7) ∧ Fr (fun _ => False) w0 w' := by
  obtain ⟨bv, bt, B, c, ops, V, T, hg, h1, h2, h3, h4, h5, h6⟩ := h
  refine (read_new hg a h0 hN).mono ?_
  rintro e w' ⟨g2, cap, rfl, a1, a2, a3, hF⟩
  rw [h2, h3] at a3
  exact ⟨g2, cap, rfl, h5.calm hF, ⟨a2, a3⟩, h4.trans hF (fun _ _ e => e)⟩

set_option maxRecDepth 100000 in
set_option maxHeartbeats 8000000 in
theorem walk (a0 a2 : Int) (v3 : Value) (p : Option Addr) (cap : Nat) (A : List ActD) (L : List Int) (w : World) (hA : ActsV w (.slice p A.length cap) A) (hL : IntsV w v3 L) :
    Calls Try.prog 7 #[.int .i64 a0, .slice p A.length cap, .int .i64 a2, v3] w fun e w' => e = .returned (.bool true) ∧ Fr (fun _ => False) w w' := by
  have HA := Lib.hid hA
  have HL := Lib.hid hL
  have ham := amongZ_in (n := a0) (m := 20) (by omega) (by omega)
  obtain ⟨z, hz⟩ : ∃ z, z = amongZ a0 20 := ⟨_, rfl⟩
  rw [← hz] at ham
  obtain ⟨N, hN⟩ : ∃ N : Nat, (N : Int) = 2 + z := ⟨(2 + z).toNat, by omega⟩
  have hNb : N ≤ 21 := by omega
  have hN1 : 2 ≤ N := by omega
  have HAM : Hid (∀ w, Calls Try.prog 14 #[.int .i64 a0, .int .i64 20] w fun e w' => e = .returned (.int .i64 z) ∧ w = w') := fun w => by rw [hz]; exact among_any w a0 20 (by omega) (by omega)
  have HNEW : Hid (∀ w, Calls Try.prog 9 #[.int .i64 (2 + z)] w fun e w' => NewGood w N e w') := fun w => by rw [← hN]; exact new_good w N (by omega) (by omega)
  have hat := amongZ_in (n := a2) (m := N) (by omega) (by omega)
  obtain ⟨a, ha⟩ : ∃ a, a = amongZ a2 N := ⟨_, rfl⟩
  rw [← ha] at hat
  have HAT : Hid (∀ w, Calls Try.prog 14 #[.int .i64 a2, .int .i64 N] w fun e w' => e = .returned (.int .i64 a) ∧ w = w') := fun w => by rw [ha]; exact among_any w a2 N (by omega) (by omega)
  have hai : I64 a := by constructor <;> omega
  obtain ⟨n, hn⟩ : ∃ n, n = A.length := ⟨_, rfl⟩
  have hn1 : n ≤ 9223372036854775807 := by obtain ⟨_, _, _, h, _⟩ := hA; omega
  rw [← hn]
  have HLEN := Lib.hid hn
  have HN0 : (0 : Int) < N := by omega
  obtain ⟨hz0, hz1⟩ := ham
  clear hA hL hz hN ha hn
  go_enter Try.func7, Try.ntmps7
  go_wp2_with fail
  refine (works_any w).mono ?_
  rintro e w1 ⟨rfl, hF1⟩
  have F1 := Lib.hid hF1
  clear hF1
  go_wp2_with fail
  refine (HAM.out _).mono ?_
  rintro e w' ⟨rfl, rfl⟩
  go_wp2_with fail
  refine (HNEW.out _).mono ?_
  rintro e w2 ⟨pb, bv, bt, rfl, hg, b1, b2, b3, hF2⟩
  have G2 := Lib.hid hg
  have F2 := Lib.hid (F1.out.trans hF2 (fun _ _ e => e))
  have B2 := Lib.hid (show w.heap.size ≤ pb ∧ w.heap.size ≤ bv ∧ w.heap.size ≤ bt from ⟨Nat.le_trans F1.out.size b1, Nat.le_trans F1.out.size b2, Nat.le_trans F1.out.size b3⟩)
  clear hg b1 b2 b3 hF2 F1
  go_wp2_with fail
  refine (sectors_good G2.out).mono ?_
  rintro e w' ⟨rfl, rfl⟩
  go_wp2_with fail
  refine (HAT.out _).mono ?_
  rintro e w' ⟨rfl, rfl⟩
  go_wp2_with fail
  refine (full_new w2 7).mono ?_
  rintro e w3 ⟨g3, k3, rfl, c1, c2, c3, hF3⟩
  have C4 := Lib.hid (AP.start (k := k3) G2.out B2.out F2.out hat.1 hat.2 c1 c2 c3 hF3)
  clear c1 c2 c3 hF3
  go_wp2_with fail
  refine (C4.out).mono ?_
  rintro e w4 ⟨rfl, hc5⟩
  have C5 := Lib.hid (hc5 w4 rfl)
  clear hc5 C4 G2 B2 F2
  go_wp2_with fail
  refine (C5.out).mono ?_
  rintro e w5 ⟨rfl, hap⟩
  have AP5 := Lib.hid hap
  clear hap C5
  go_wp2_with fail
  go_loopw [11] (fun i wr => ∃ k : Nat, k ≤ n ∧ k ≤ 100 ∧ i = .int .i64 k ∧ Hid (AP w pb N a (4 + 4 * k) wr)) (fun i _ => n - (intOf i).toNat)
  case atStart => exact ⟨0, Nat.zero_le _, by omega, rfl, AP5⟩
  case round =>
    obtain ⟨k, hk, hk2, rfl, HP⟩ := hrel
    by_cases hlt : k < n ∧ k < 100
    · obtain ⟨hlt1, hlt2⟩ := hlt
      obtain ⟨aa, haa⟩ : ∃ aa, A[k]? = some aa := ⟨_, List.getElem?_eq_getElem (by have := HLEN.out; omega)⟩
      obtain ⟨blk, off, rfl, HK⟩ : ∃ blk off, p = some ⟨blk, off, none⟩ ∧ Hid (∀ w', Fr (fun _ => False) w w' → w'.cell? ⟨blk, off + k * 5, none⟩ = some (.int .i64 aa.what) ∧ w'.cell? ⟨blk, off + k * 5 + 1, none⟩ = some (.int .i64 aa.where_) ∧ w'.cell? ⟨blk, off + k * 5 + 3, none⟩ = some (.int .u8 (aa.fill.toNat : Int))) := by
        obtain ⟨p', cap', hv, _, ho⟩ := HA.out
        obtain ⟨blk, off, hp, hb, hacts⟩ := ho (by rintro rfl; simp at haa)
        simp only [Value.slice.injEq] at hv
        exact ⟨blk, off, hv.1.trans hp, Lib.hid (fun w' hF => (hacts.kept (hF.block blk hb id)) k aa haa)⟩
      clear haa
      obtain ⟨d0, d1, d3⟩ := HK.out wr HP.out.fr
      obtain ⟨s, hs⟩ : ∃ s, s = amongZ aa.where_ N := ⟨_, rfl⟩
      have HSB : Hid (0 ≤ s ∧ s < N) := by rw [hs]; exact amongZ_in (by omega) (by omega)
      have HS : Hid (∀ w, Calls Try.prog 14 #[.int .i64 aa.where_, .int .i64 N] w fun e w' => e = .returned (.int .i64 s) ∧ w' = w) := fun w => by
        rw [hs]; exact (among_any w aa.where_ N (by omega) (by omega)).mono fun _ _ h => ⟨h.1, h.2.symm⟩
      have HSEC : Hid (∀ q, Calls Try.prog 32 #[.pointer (some ⟨pb, 0, none⟩)] (wr.drewN q) fun e w' => e = .returned (.int .i64 N) ∧ w' = wr.drewN q) := fun q =>
        (sectors_cell pb N HN0 (wr.drewN q) HP.out.cell0).mono fun _ _ h => ⟨h.1, h.2.symm⟩
      obtain ⟨x, hx⟩ : ∃ x, x = amongZ aa.what 4 := ⟨_, rfl⟩
      have HX : Hid (∀ w, Calls Try.prog 14 #[.int .i64 aa.what, .int .i64 4] w fun e w' => e = .returned (.int .i64 x) ∧ w = w') := fun w => by
        rw [hx]; exact among_any w aa.what 4 (by omega) (by omega)
      clear hs hx
      have h0 : (0 : Int) ≤ k := by omega
      have h1 : (k : Int) < n := by omega
      have h2 : (k : Int) < 100 := by omega
      go_wp2_with fail
      go_quiet ((first
        | (go_at_call 32; exact Calls.quiet_of_same (HSEC.out _))
        | (go_at_call 14; exact Calls.quiet_of_same (HS.out _))))
      have HQ := Lib.hid (HP.out.calm ((Fr.refl _ wr).drewN nq))
      by_cases hsa : s = a
      · subst hsa
        have HQ2 := Lib.hid (HQ.out.big (B' := 4 + 4 * k + 2) (by omega) (by omega))
        by_cases hx3 : x = 3
        · subst hx3
          go_wp2_with fail
          refine (HX.out _).mono ?_
          rintro e w' ⟨rfl, rfl⟩
          go_wp2_with fail
          refine (HQ2.out.sync hai (by omega)).mono ?_
          rintro e w9 ⟨rfl, hap9⟩
          have HP9 := Lib.hid hap9
          clear hap9
          go_wp2_with fail
          go_roundw
          case rel => exact ⟨k + 1, by omega, by omega, by go_num, HP9⟩
          case measure => simp [intOf]; omega
        · have hb : (x == 3) = false := by simpa using hx3
          clear hx3
          go_wp2_with fail
          refine (HX.out _).mono ?_
          rintro e w' ⟨rfl, rfl⟩
          go_wp2_with fail
          go_roundw
          case rel => exact ⟨k + 1, by omega, by omega, by go_num, Lib.hid (HQ2.out.big (by omega) (by omega))⟩
          case measure => simp [intOf]; omega
      · have hne : (s == a) = false := by simpa using hsa
        have HNE := Lib.hid hsa
        clear hsa
        go_wp2_with fail
        refine (full_new _ aa.fill).mono ?_
        rintro e w6 ⟨g, k6, rfl, a1, a2, a3, hF6⟩
        have HW := Lib.hid (HQ.out.write (k := k6) (by omega) HNE.out HSB.out.1 HSB.out.2 a1 a2 a3 hF6)
        clear a1 a2 a3 hF6
        go_wp2_with fail
        refine (HW.out).mono ?_
        rintro e w8 ⟨rfl, hap8⟩
        have HQ2 := Lib.hid hap8
        obtain ⟨e0, e1, e3⟩ := HK.out w8 hap8.fr
        clear hap8
        by_cases hx3 : x = 3
        · subst hx3
          go_wp2_with fail
          refine (HX.out _).mono ?_
          rintro e w' ⟨rfl, rfl⟩
          go_wp2_with fail
          refine (HQ2.out.sync hai (by omega)).mono ?_
          rintro e w9 ⟨rfl, hap9⟩
          have HP9 := Lib.hid hap9
          clear hap9
          go_wp2_with fail
          go_roundw
          case rel => exact ⟨k + 1, by omega, by omega, by go_num, HP9⟩
          case measure => simp [intOf]; omega
        · have hb : (x == 3) = false := by simpa using hx3
          clear hx3
          go_wp2_with fail
          refine (HX.out _).mono ?_
          rintro e w' ⟨rfl, rfl⟩
          go_wp2_with fail
          go_roundw
          case rel => exact ⟨k + 1, by omega, by omega, by go_num, Lib.hid (HQ2.out.big (by omega) (by omega))⟩
          case measure => simp [intOf]; omega
    · have hex : k = n ∨ (k = 100 ∧ 100 < n) := by omega
      clear hlt
      have HR := Lib.hid (HP.out.read hat.1 hat.2)
      rcases hex with rfl | ⟨rfl, hgt⟩
      all_goals
        go_wp2_with fail
        refine (HR.out).mono ?_
        rintro e w6 ⟨g6, k6, rfl, ha6⟩
        have C6 := Lib.hid (ha6.crash HL.out)
        clear ha6 HR
        go_wp2_with fail
        refine (C6.out).mono ?_
        rintro e w7 ⟨rfl, ha7⟩
        have C7 := Lib.hid (ha7.read hat.1 hat.2)
        clear ha7 C6
        go_wp2_with fail
        refine (C7.out).mono ?_
        rintro e w8 ⟨g8, k8, rfl, hh1, hh2, hF8⟩
        have H1 := Lib.hid hh1
        have H2 := Lib.hid hh2
        have F8 := Lib.hid hF8
        clear hh1 hh2 hF8 C7
        go_wp2_with fail
        refine (full_new _ 7).mono ?_
        rintro e w9 ⟨g9, k9, rfl, a1, a2, a3, hF9⟩
        have C9 := Lib.hid (same_has (c1 := k6) (c2 := k9) (H1.out.calm hF9) ⟨a2, a3⟩)
        have H29 := Lib.hid (H2.out.calm hF9)
        have F9 := Lib.hid (F8.out.trans hF9 (fun _ _ e => e))
        clear a1 a2 a3 hF9 H1 H2 F8
        go_wp2_with fail
        refine (C9.out).mono ?_
        rintro e w10 ⟨rfl, hF10⟩
        have H210 := Lib.hid (H29.out.calm hF10)
        have F10 := Lib.hid (F9.out.trans hF10 (fun _ _ e => e))
        clear hF10 C9 H29 F9
        go_wp2_with fail
        refine (full_new _ 7).mono ?_
        rintro e w11 ⟨g11, k11, rfl, a1, a2, a3, hF11⟩
        have C11 := Lib.hid (same_has (c1 := k8) (c2 := k11) (H210.out.calm hF11) ⟨a2, a3⟩)
        have F11 := Lib.hid (F10.out.trans hF11 (fun _ _ e => e))
        clear a1 a2 a3 hF11 H210 F10
        go_wp2_with fail
        refine (C11.out).mono ?_
        rintro e w12 ⟨rfl, hF12⟩
        have F12 := Lib.hid (F11.out.trans hF12 (fun _ _ e => e))
        clear hF12 C11 F11
        go_wp2_with fail
        go_ret
        exact ⟨rfl, F12.out⟩

/-! ### the row -/
theorem own : ownKnob Try.prog.godebug = none := by kernel_rfl

set_option maxRecDepth 100000 in
theorem lifted (os : Os) (started : os.Started) (H : Type) (enc : TypeId × Value → H) :
    ReturnsInHanded {} Try.checked os 7 .any (Rows.diskApartSpec.pre6 enc Try.prog Try.f7 Rows.diskApartRow.domain false) (Rows.diskApartSpec.post enc Try.prog Try.f7 false true false false) := by
  refine returnsInHanded_of_change (C := Try.checked) own started (by kernel_rfl) Try.func7
    (ChangeSpec.witness6 (enc := enc) (C := Try.checked) false ⟨#[], #[.int .i64 0, .slice none 0 0, .int .i64 0, .slice none 0 0], []⟩ 8 (by kernel_rfl) (by kernel_rfl) (by kernel_rfl) (by kernel_rfl)) ?_
  intro W base args ds gs before hval0 hW _ _
  have hval : ∀ (j : Nat) t v, Try.f7.params[j]? = some t → args[j]? = some v → Value.okWide Try.prog W .any base t v := hval0
  have hW' := hW
  obtain ⟨p, q, hA0, hV, rfl, hfz, hnd⟩ := hW
  have hA : DataW.TrodAll enc Try.prog W 0 (fun _ => true) true Try.f7.params.toList args.toList ds p := hA0
  rw [Try.params7] at hA hval
  obtain ⟨v0, vs0, d0, ds0, p0, q0, hargs, rfl, rfl, h0, r0⟩ := trodAll_cons hA
  obtain ⟨v1, vs1, d1, ds1, p1, q1, rfl, rfl, rfl, h1, r1⟩ := trodAll_cons r0
  obtain ⟨v2, vs2, d2, ds2, p2, q2, rfl, rfl, rfl, h2, r2⟩ := trodAll_cons r1
  obtain ⟨v3, vs3, d3, ds3, p3, q3, rfl, rfl, rfl, h3, r3⟩ := trodAll_cons r2
  obtain ⟨rfl, rfl, rfl⟩ := trodAll_nil r3
  obtain rfl : args = #[v0, v1, v2, v3] := by cases args; simp_all
  obtain ⟨rfl, rfl⟩ := trodVars_none hV
  obtain ⟨a0, rfl, rfl, rfl, w0⟩ := open_int Try.underlying3 (hval 0 3 v0 rfl rfl) h0
  obtain ⟨a1, len1, cap1, rfl⟩ := okWide_slice Try.underlying23 (hval 1 23 v1 rfl rfl)
  obtain ⟨a2, rfl, rfl, rfl, w2⟩ := open_int Try.underlying3 (hval 2 3 v2 rfl rfl) h2
  obtain ⟨a3, len3, cap3, rfl⟩ := okWide_slice Try.underlying34 (hval 3 34 v3 rfl rfl)
  obtain ⟨A, rfl, hAc⟩ := acts_open (fun _ => rfl) h1
  obtain ⟨L, _, hLi, _⟩ := ints_open (fun _ => rfl) h3
  clear hA0 hval0
  simp only [List.append_nil, List.nil_append] at hW' 
  have hlt1 : ∀ x ∈ p1, x.block < W.heap.size := fun x hx => by simpa using hW'.lt x (by simp [hx])
  have hlt3 : ∀ x ∈ p3, x.block < W.heap.size := fun x hx => by simpa using hW'.lt x (by simp [hx])
  refine (walk a0 a2 _ _ _ A L W hAc hLi).mono fun e W' ⟨he, hg⟩ => ?_
  subst he
  have hB : Below W.heap.size W W' := hg.below (Nat.le_refl _) (fun _ _ e => e.elim)
  have t1 := Below.trod laidOut (by kernel_rfl) (of_decide_eq_true (by kernel_rfl)) h1 hB hlt1
  have t3 := Below.trod laidOut (by kernel_rfl) (of_decide_eq_true (by kernel_rfl)) h3 hB hlt3
  exact ⟨_, rfl, _, _, _, [], _, [], hW', trodAll_cons_mk (shut_bool Try.underlying4 _) trodAll_mk0, trodAll_cons_mk (shut_int Try.underlying3 w0) (trodAll_cons_mk t1 (trodAll_cons_mk (shut_int Try.underlying3 w2) (trodAll_cons_mk t3 trodAll_mk0))), rfl, hB.frame _, fun h => by cases h⟩

theorem over : Rows.diskApartRow.holds Try.pinned (OpenSpec.ofChange Rows.diskApartSpec) :=
  OpenClaim.holds_of_wide 7 Try.f7 rfl rfl rfl rfl rfl rfl rfl ⟨rfl, rfl, rfl, rfl, rfl⟩ rfl rfl rfl rfl rfl (by kernel_rfl) Try.func7 (by kernel_rfl)
    (of_decide_eq_true (by kernel_rfl)) (by unfold Func.isWrapper; first | (rw [if_pos (by decide +kernel)]; kernel_rfl) | (rw [if_neg (by decide +kernel)]; exact ⟨rfl, rfl⟩))
    (fun os started H enc _ => lifted os started H enc)

theorem proved : Rows.DiskApartSaid :=
  over
#print axioms proved

end Go.Proofs.Ytbmbibepcnpngaa.diskApart
