/-
  DiskOne: behind a crash each sector has one of its values since the last sync, that is sure then; and each of them comes of some picks. No condition.
-/
import Derived.Test.YtbmbibepcnpngaaRows
import Derived.Test.YtbmbibepcnpngaaTwo
import Derived.Deep.QuietTactic
import Derived.BigQuiet
import Derived.ProofKit
import Derived.Outline
import Derived.OwnWalk
namespace Go.Proofs.Ytbmbibepcnpngaa.diskOne
open Go.ChangeShapes Go.WideShapes Go.ChangeAt Go.RowKit

theorem infoSl : (Try.prog.info? 22).map (fun i => (i.zero, i.size, i.bytes)) = some (some (.slice none 0 0), 1, 24) := by kernel_rfl
theorem infoInt : (Try.prog.info? 3).map (fun i => (i.zero, i.size, i.bytes)) = some (some (.int .i64 0), 1, 8) := by kernel_rfl

/-- Behind the first sync. -/
def S0 (w0 : World) (pb N : Nat) (w : World) : Prop :=
  ∃ bv bt B ops V, Good w pb bv bt N B 0 ops (-1) false V (fun _ => 0) ∧ B ≤ 2000 ∧ (w0.heap.size ≤ pb ∧ w0.heap.size ≤ bv ∧ w0.heap.size ≤ bt) ∧ Fr (fun _ => False) w0 w

theorem sync0 {w0 w : World} {pb N : Nat} {I : Nat → List UInt8} (h : diskSynced.SA w0 pb N I w) : Calls Try.prog 18 #[.pointer (some ⟨pb, 0, none⟩)] w fun e w' => e = .returned (.int .i64 0) ∧ S0 w0 pb N w' := by
  obtain ⟨bv, bt, B, c, ops, V, T, hg, hB, h1, h2, h3⟩ := h
  refine (sync_free hg (by omega)).mono ?_
  rintro e w' ⟨rfl, bt', V', hg', hV, hlt, hF⟩
  exact ⟨rfl, bv, bt', _, _, V', hg', by omega, ⟨h1.1, h1.2.1, Nat.le_trans h2.size hlt⟩, h2.go hF (fun i e => by omega)⟩

theorem S0.sectors {w0 w : World} {pb N : Nat} (h : S0 w0 pb N w) : Calls Try.prog 32 #[.pointer (some ⟨pb, 0, none⟩)] w fun e w' => e = .returned (.int .i64 N) ∧ w = w' := by
  obtain ⟨bv, bt, B, ops, V, hg, _⟩ := h
  exact sectors_good hg

theorem S0.read {w0 w : World} {pb N a : Nat} (h : S0 w0 pb N w) (ha : a < N) (W : List Int) : Calls Try.prog 20 #[.pointer (some ⟨pb, 0, none⟩), .int .i64 a] w fun e w' => ∃ g cap, e = .returned (.tuple #[.slice (some ⟨g, 0, none⟩) 256 cap, .int .i64 0]) ∧ w0.heap.size ≤ w.heap.size ∧ O1 w0 pb w.heap.size N a W 0 1 (.slice (some ⟨w'.heap.size, 0, none⟩) 1 1) (w'.alloc (.cells #[.slice (some ⟨g, 0, none⟩) 256 cap] 22)) := by
  obtain ⟨bv, bt, B, ops, V, hg, hB, h1, h2⟩ := h
  have hl := hg.lt
  have hn1 := hg.n1
  have hlen := hg.len (s := a) (t := 0) (by constructor <;> omega) I64.zero
  refine (read_new hg a (by omega) (by omega)).mono ?_
  rintro e w' ⟨g, cap, rfl, a1, a2, a3, hF⟩
  have hFa : Fr (fun _ => False) w (w'.alloc (.cells #[.slice (some ⟨g, 0, none⟩) 256 cap] 22)) := hF.alloc _
  refine ⟨g, cap, rfl, h2.size, ⟨bv, bt, 0, ops, V, _, (hg.calm hFa).big (by omega) (by omega), rfl, fun s _ => by simp, ?_, h1⟩, h2.trans hFa (fun _ _ e => e)⟩
  exact (VR.first hF.size hl ⟨a2, a3⟩ hlen (by omega)).congr (fun j hj => by obtain rfl : j = 0 := by omega
                                                                             rfl)

/-- A row of noughts that was made. -/
theorem made_row {w : World} {g n : Nat} (h : w.ownsRow g 3 1 (.slice (some ⟨g, 0, none⟩) n n) n (madeCells (Value.int .i64 0).cells (n * 1)).toList) (hn : 0 < n) : ∃ cur, w.heap[g]? = some (.cells cur 3 (0, 0)) ∧ cur.toList = List.replicate n (.int .i64 0) := by
  rcases h.2 with ⟨_, h0⟩ | ⟨g', cap, cur, hv, _, hg, _, _, hs, ht⟩
  · omega
  · simp only [Value.slice.injEq, Option.some.injEq, Addr.mk.injEq, and_true, true_and] at hv
    obtain ⟨rfl, rfl⟩ := hv
    refine ⟨cur, hg, ?_⟩
    rw [List.take_of_length_le (by rw [Array.length_toList]; omega)] at ht
    rw [ht]
    show (madeCells #[Value.int .i64 0] (n * 1)).toList = _
    rw [toList_madeCells_one, Nat.mul_one]

theorem O1m.base {w0 w : World} {pb base N a k n : Nat} {W : List Int} {v : Value} {x : UInt8} (h : O1m w0 pb base N a W k n x v w) : base ≤ w.heap.size := by
  obtain ⟨bv, bt, c, ops, V, T, h1, h2, h2', h3, h4, h5⟩ := h.ex
  obtain ⟨xs, ho, _⟩ := h4.row
  obtain ⟨g0, cap, hv, _⟩ := h4.load
  have := ho.lt g0 (by rw [hv]; rfl)
  omega

set_option maxRecDepth 100000 in
set_option maxHeartbeats 16000000 in
theorem walk (a0 a4 : Int) (v1 v3 : Value) (p : Option Addr) (len cap : Nat) (A D : List ActD) (L : List Int) (w : World) (hD : ActsV w v1 D) (hlen : A.length = len) (hA : ActsV w (.slice p len cap) A) (hL : IntsV w v3 L) :
    Calls Try.prog 5 #[.int .i64 a0, v1, .slice p len cap, v3, .int .i64 a4] w fun e w' => e = .returned (.bool true) ∧ Fr (fun _ => False) w w' := by
  have HD := Lib.hid hD
  have HA := Lib.hid hA
  have HL := Lib.hid hL
  have ham := amongZ_in (n := a0) (m := 20) (by omega) (by omega)
  obtain ⟨z, hz⟩ : ∃ z, z = amongZ a0 20 := ⟨_, rfl⟩
  rw [← hz] at ham
  obtain ⟨N, hN⟩ : ∃ N : Nat, (N : Int) = 1 + z := ⟨(1 + z).toNat, by omega⟩
  have hNb : N ≤ 20 := by omega
  have hN1 : 1 ≤ N := by omega
  have HAM : Hid (∀ w, Calls Try.prog 14 #[.int .i64 a0, .int .i64 20] w fun e w' => e = .returned (.int .i64 z) ∧ w = w') := fun w => by rw [hz]; exact among_any w a0 20 (by omega) (by omega)
  have HNEW : Hid (∀ w, Calls Try.prog 9 #[.int .i64 (1 + z)] w fun e w' => NewGood w N e w') := fun w => by rw [← hN]; exact new_good w N (by omega) (by omega)
  have han := amongZ_in (n := a4) (m := N) (by omega) (by omega)
  obtain ⟨a, ha⟩ : ∃ a : Nat, (a : Int) = amongZ a4 N := ⟨(amongZ a4 N).toNat, by omega⟩
  rw [← ha] at han
  have haN : a < N := by omega
  have HAT : Hid (∀ w, Calls Try.prog 14 #[.int .i64 a4, .int .i64 N] w fun e w' => e = .returned (.int .i64 a) ∧ w = w') := fun w => by rw [ha]; exact among_any w a4 N (by omega) (by omega)
  have HN0 : (0 : Int) < N := by omega
  have HN2 : (N : Int) ≤ 9223372036854775807 := by omega
  obtain ⟨hz0, hz1⟩ := ham
  have HLEN := Lib.hid hlen
  obtain ⟨W, hW⟩ : ∃ W : List Int, W = A.map (fun x => amongZ x.where_ N) := ⟨_, rfl⟩
  have HW : Hid (∀ (k : Nat) (x : ActD), A[k]? = some x → W[k]? = some (amongZ x.where_ N)) := fun k x hx => by
    rw [hW, List.getElem?_map, hx]
    rfl
  have HWL : Hid (W.length = len) := by
    rw [hW, List.length_map]
    exact hlen
  obtain ⟨i0, hi, hiz, his, hib⟩ := info_parts infoSl
  have HI := Lib.hid (show Try.prog.info? 22 = some i0 ∧ i0.zero = some (.slice none 0 0) ∧ i0.size = 1 ∧ i0.bytes = 24 from ⟨hi, hiz, his, hib⟩)
  obtain ⟨i1, hj, hjz, hjs, hjb⟩ := info_parts infoInt
  have HJ := Lib.hid (show Try.prog.info? 3 = some i1 ∧ i1.zero = some (.int .i64 0) ∧ i1.size = 1 ∧ i1.bytes = 8 from ⟨hj, hjz, hjs, hjb⟩)
  clear hA hD hL hz hN han ha hlen hW hi hiz his hib hj hjz hjs hjb
  go_enter Try.func5, Try.ntmps5
  go_wp2_with fail
  refine (works_any w).mono ?_
  rintro e w1 ⟨rfl, hF1⟩
  have F1 := Lib.hid hF1
  clear hF1
  go_wp2_with fail
  refine (HAM.out _).mono ?_
  rintro e w' ⟨rfl, rfl⟩
  go_wp2_with fail
  refine (HNEW.out _).mono ?_
  rintro e w2 ⟨pb, bv, bt, rfl, hg, b1, b2, b3, hF2⟩
  have C3 := Lib.hid (diskSynced.new_do (w0 := w) hg (by omega) ⟨Nat.le_trans F1.out.size b1, Nat.le_trans F1.out.size b2, Nat.le_trans F1.out.size b3⟩ (F1.out.trans hF2 (fun _ _ e => e)) HD.out)
  clear hg b1 b2 b3 hF2 F1
  go_wp2_with fail
  refine (C3.out).mono ?_
  rintro e w3 ⟨rfl, I, hs3⟩
  have C4 := Lib.hid (sync0 hs3)
  clear hs3 C3
  go_wp2_with fail
  refine (C4.out).mono ?_
  rintro e w4 ⟨rfl, hs4⟩
  have S4 := Lib.hid hs4
  clear hs4 C4
  go_wp2_with fail
  refine (S4.out.sectors).mono ?_
  rintro e w' ⟨rfl, rfl⟩
  go_wp2_with fail
  refine (HAT.out _).mono ?_
  rintro e w' ⟨rfl, rfl⟩
  go_wp2_with fail
  refine (S4.out.read haN W).mono ?_
  rintro e w5 ⟨g5, k5, rfl, hbs, ho5⟩
  obtain ⟨base, hbase⟩ : ∃ base, base = w4.heap.size := ⟨_, rfl⟩
  rw [← hbase] at ho5 hbs
  have O5' := Lib.hid ho5
  have HB := Lib.hid hbs
  clear ho5 hbs hbase S4
  go_wp2_with fail
  go_loopw [15, 16] (fun v i wr => ∃ k n : Nat, k ≤ len ∧ k ≤ 60 ∧ n ≤ k + 1 ∧ i = .int .i64 k ∧ Hid (O1 w pb base N a W k n v wr))
    (fun _ i _ => len - (intOf i).toNat)
  case atStart => exact ⟨0, 1, Nat.zero_le _, by omega, by omega, rfl, O5'⟩
  case round =>
    obtain ⟨k, n, hk, hk2, hnk, rfl, HO⟩ := hrel
    by_cases hlt : k < len ∧ k < 60
    · obtain ⟨hlt1, hlt2⟩ := hlt
      obtain ⟨aa, haa⟩ : ∃ aa, A[k]? = some aa := ⟨_, List.getElem?_eq_getElem (by have := HLEN.out; omega)⟩
      obtain ⟨blk, off, rfl, HK⟩ : ∃ blk off, p = some ⟨blk, off, none⟩ ∧ Hid (∀ w', Fr (fun _ => False) w w' → w'.cell? ⟨blk, off + k * 5 + 1, none⟩ = some (.int .i64 aa.where_) ∧ w'.cell? ⟨blk, off + k * 5 + 3, none⟩ = some (.int .u8 (aa.fill.toNat : Int))) := by
        obtain ⟨p', cap', hv, _, ho⟩ := HA.out
        obtain ⟨blk, off, hp, hb, hacts⟩ := ho (by rintro rfl; simp at haa)
        simp only [Value.slice.injEq] at hv
        exact ⟨blk, off, hv.1.trans hp, Lib.hid (fun w' hF => ((hacts.kept (hF.block blk hb id)) k aa haa).2)⟩
      obtain ⟨s, hs⟩ : ∃ s, s = amongZ aa.where_ N := ⟨_, rfl⟩
      have HSB : Hid (0 ≤ s ∧ s < N) := by rw [hs]; exact amongZ_in (by omega) (by omega)
      have HWS : Hid (W[k]? = some s) := by rw [hs]; exact HW.out k aa haa
      have HS : Hid (∀ w, Calls Try.prog 14 #[.int .i64 aa.where_, .int .i64 N] w fun e w' => e = .returned (.int .i64 s) ∧ w' = w) := fun w => by
        rw [hs]; exact (among_any w aa.where_ N (by omega) (by omega)).mono fun _ _ h => ⟨h.1, h.2.symm⟩
      have HSEC : Hid (∀ q, Calls Try.prog 32 #[.pointer (some ⟨pb, 0, none⟩)] (wr.drewN q) fun e w' => e = .returned (.int .i64 N) ∧ w' = wr.drewN q) := fun q =>
        (sectors_cell pb N HN0 (wr.drewN q) HO.out.cell0).mono fun _ _ h => ⟨h.1, h.2.symm⟩
      clear haa hs
      obtain ⟨d1, d3⟩ := HK.out wr HO.out.fr
      have h0 : (0 : Int) ≤ k := by omega
      have h1 : (k : Int) < len := by omega
      have h2 : (k : Int) < 60 := by omega
      go_wp2_with fail
      go_quiet ((first
        | (go_at_call 32; exact Calls.quiet_of_same (HSEC.out _))
        | (go_at_call 14; exact Calls.quiet_of_same (HS.out _))))
      have HQ := Lib.hid (HO.out.calm ((Fr.refl _ wr).drewN nq))
      by_cases hsa : s = a
      · subst hsa
        go_wp2_with fail
        refine (full_new _ aa.fill).mono ?_
        rintro e w6 ⟨g, k6, rfl, a1, a2, a3, hF6⟩
        have HW6 := Lib.hid (HQ.out.writeA (kk := k6) hlt2 HWS.out haN a1 a2 a3 hF6)
        clear a1 a2 a3 hF6
        go_wp2_with fail
        refine (HW6.out).mono ?_
        rintro e w8 ⟨rfl, ho8⟩
        have HO8 := Lib.hid ho8
        obtain ⟨e1, e3⟩ := HK.out w8 ho8.fr
        clear ho8
        go_wp2_with fail
        refine (full_new _ aa.fill).mono ?_
        rintro e w9 ⟨g9, k9, rfl, a1, a2, a3, hF9⟩
        obtain ⟨xs, ho9, hmore⟩ := (HO8.out.calm hF9).more (c := k9) HB.out ⟨a2, a3⟩ (Nat.le_trans HO8.out.base a1)
        have HO9 := Lib.hid ho9
        have HMORE := Lib.hid hmore
        have HBS : Hid (base ≤ (w9.alloc (.cells #[.slice (some ⟨g9, 0, none⟩) 256 k9] 22)).heap.size) := Lib.hid (Nat.le_trans HO8.out.base (Nat.le_trans hF9.size ((Fr.refl (fun _ => False) w9).alloc _).size))
        have HC1 : Hid (∀ j u, [Value.slice (some ⟨g9, 0, none⟩) 256 k9][j]? = some u → (w9.alloc (.cells #[.slice (some ⟨g9, 0, none⟩) 256 k9] 22)).cell? ((⟨w9.heap.size, 0, none⟩ : Addr).add j) = some u) := fun j u hj => by
          match j, hj with
          | 0, hj =>
            simp at hj
            subst hj
            rw [add_plain, cellAt (heap_alloc_new w9 _)]
            rfl
        have HC2 : Hid (∀ u ∈ [Value.slice (some ⟨g9, 0, none⟩) 256 k9], u.oneCell' = true) := fun u hu => by simp at hu; subst hu; rfl
        have HC3 : Hid (n + 1 ≤ maxLen ∧ (n + 1) * 24 ≤ 140737488355328) := Lib.hid ⟨by unfold maxLen; omega, by omega⟩
        clear a1 a2 a3 hF9 ho9 hmore HO8
        go_wp2_with (first
          | ((with_reducible refine wpList_append_own _ ?_ (.tmp 93) (.tmp 100) 58 ?_ base 22 i0 (.slice none 0 0) 1 24 Try.underlying58 HI.out.1 HI.out.2.1 HI.out.2.2.1 HI.out.2.2.2 ?_ ?_ u15 n xs ?_ HO9.out ⟨w9.heap.size, 0, none⟩ 1 1 [.slice (some ⟨g9, 0, none⟩) 256 k9] ?_ ?_ HC1.out HC2.out HC3.out.1 HC3.out.2 HBS.out ?_); (exact rfl); (exact rfl); (exact rfl); (exact (by decide)); (exact rfl); (exact rfl); (exact rfl); intro v' w10 ho10 hg10 _; have HO10 := Lib.hid (HMORE.out v' w10 ho10 hg10); clear ho10 hg10))
        go_roundw
        case rel => exact ⟨k + 1, n + 1, by omega, by omega, by omega, by go_num, HO10⟩
        case measure => simp [intOf]; omega
      · have hne : (s == (a : Int)) = false := by simpa using hsa
        have HNE := Lib.hid hsa
        clear hsa
        go_wp2_with fail
        refine (full_new _ aa.fill).mono ?_
        rintro e w6 ⟨g, k6, rfl, a1, a2, a3, hF6⟩
        have HW6 := Lib.hid (HQ.out.write (kk := k6) hlt2 HWS.out HSB.out.1 HSB.out.2 HNE.out a1 a2 a3 hF6)
        clear a1 a2 a3 hF6
        go_wp2_with fail
        refine (HW6.out).mono ?_
        rintro e w8 ⟨rfl, ho8⟩
        have HO8 := Lib.hid ho8
        clear ho8
        go_wp2_with fail
        go_roundw
        case rel => exact ⟨k + 1, n, by omega, by omega, by omega, by go_num, HO8⟩
        case measure => simp [intOf]; omega
    · have hex : len ≤ k ∨ (60 ≤ k ∧ k < len) := by omega
      have HKX : Hid (∀ kk, kk ≤ len → kk ≤ 60 → ¬ (kk < len ∧ kk < 60) → kk = k) := fun kk x1 x2 x3 => by omega
      have HCL := Lib.hid (HO.out.clone hk2)
      clear hlt
      rcases hex with hge | ⟨hge, hlt3⟩
      case' inl => have hx1 : (len : Int) ≤ k := by omega
      case' inr =>
        have hx1 : (k : Int) < len := by omega
        have hx2 : (60 : Int) ≤ k := by omega
      all_goals
        go_wp2_with fail
        refine (HCL.out).mono ?_
        rintro e w6 ⟨qb, G, rfl, ho2⟩
        obtain ⟨g0, capv, hv, hnc, _⟩ := ho2.row
        subst hv
        have H6 := Lib.hid ho2
        obtain ⟨W', hW'⟩ : ∃ W', W' = W.take k := ⟨_, rfl⟩
        have HW' := Lib.hid hW'
        rw [← hW'] at H6
        clear ho2 hW' HCL HO
        go_wp2_with fail
        go_loopw [18, 20] (fun vp vi wr => ∃ i : Nat, i ≤ a ∧ vp = .int .i64 (cntB (wri W') i) ∧ vi = .int .i64 i ∧ Hid (O2 w pb qb base N a W' n (.slice (some ⟨g0, 0, none⟩) n capv) G wr)) (fun _ v _ => a - (intOf v).toNat)
        case atStart => exact ⟨0, Nat.zero_le _, rfl, rfl, H6⟩
        case round =>
          obtain ⟨i, hi, rfl, rfl, H7⟩ := hrel
          by_cases hia : i < a
          · have hi1 : (i : Int) < a := by omega
            go_wp2_with fail
            go_loopw [21, 22] (fun vh vk wq => ∃ (kk : Nat) (b : Bool), kk ≤ len ∧ kk ≤ 60 ∧ vh = .bool b ∧ vk = .int .i64 kk ∧ Hid (b = decide ((i : Int) ∈ W.take kk)) ∧ Hid (O2 w pb qb base N a W' n (.slice (some ⟨g0, 0, none⟩) n capv) G wq)) (fun _ v _ => len - (intOf v).toNat)
            case atStart => exact ⟨0, false, Nat.zero_le _, by omega, rfl, rfl, Lib.hid (by simp), H7⟩
            case round =>
              obtain ⟨kk, b, hk3, hk4, rfl, rfl, HBB, H8⟩ := hrel
              by_cases hl3 : kk < len ∧ kk < 60
              · obtain ⟨hl4, hl5⟩ := hl3
                have j0 : (0 : Int) ≤ kk := by omega
                have j1 : (kk : Int) < len := by omega
                have j2 : (kk : Int) < 60 := by omega
                obtain ⟨aa, haa⟩ : ∃ aa, A[kk]? = some aa := ⟨_, List.getElem?_eq_getElem (by have := HLEN.out; omega)⟩
                obtain ⟨blk, off, rfl, HK⟩ : ∃ blk off, p = some ⟨blk, off, none⟩ ∧ Hid (∀ w', Fr (fun _ => False) w w' → w'.cell? ⟨blk, off + kk * 5 + 1, none⟩ = some (.int .i64 aa.where_) ∧ w'.cell? ⟨blk, off + kk * 5 + 3, none⟩ = some (.int .u8 (aa.fill.toNat : Int))) := by
                  obtain ⟨p', cap', hv, _, ho⟩ := HA.out
                  obtain ⟨blk, off, hp, hb, hacts⟩ := ho (by rintro rfl; simp at haa)
                  simp only [Value.slice.injEq] at hv
                  exact ⟨blk, off, hv.1.trans hp, Lib.hid (fun w' hF => ((hacts.kept (hF.block blk hb id)) kk aa haa).2)⟩
                obtain ⟨s, hs⟩ : ∃ s, s = amongZ aa.where_ N := ⟨_, rfl⟩
                have HWS : Hid (∀ t : Int, t ∈ W.take (kk + 1) ↔ (t ∈ W.take kk ∨ t = s)) := by rw [hs]; exact take_step (HW.out kk aa haa)
                have HS : Hid (∀ w, Calls Try.prog 14 #[.int .i64 aa.where_, .int .i64 N] w fun e w' => e = .returned (.int .i64 s) ∧ w' = w) := fun w => by
                  rw [hs]; exact (among_any w aa.where_ N (by omega) (by omega)).mono fun _ _ h => ⟨h.1, h.2.symm⟩
                have HSEC : Hid (∀ q, Calls Try.prog 32 #[.pointer (some ⟨pb, 0, none⟩)] (wr.drewN q) fun e w' => e = .returned (.int .i64 N) ∧ w' = wr.drewN q) := fun q =>
                  (sectors_cell pb N HN0 (wr.drewN q) H8.out.cell0).mono fun _ _ h => ⟨h.1, h.2.symm⟩
                clear haa hs
                obtain ⟨d1, _⟩ := HK.out wr H8.out.fr
                cases b
                case true =>
                  have HE : Hid (true = decide ((i : Int) ∈ W.take (kk + 1))) := (decide_eq_true ((HWS.out _).2 (Or.inl (of_decide_eq_true HBB.out.symm)))).symm
                  clear HBB
                  go_wp2_with fail
                  go_quiet ((first
                    | (go_at_call 32; exact Calls.quiet_of_same (HSEC.out _))
                    | (go_at_call 14; exact Calls.quiet_of_same (HS.out _))))
                  go_wp2_with fail
                  go_roundw
                  case rel => exact ⟨kk + 1, _, by omega, by omega, rfl, by go_num, HE, Lib.hid (H8.out.calm ((Fr.refl _ wr).drewN nq))⟩
                  case measure => simp [intOf]; omega
                case false =>
                  have hin : ¬ (i : Int) ∈ W.take kk := of_decide_eq_false HBB.out.symm
                  have HE : Hid ((s == (i : Int)) = decide ((i : Int) ∈ W.take (kk + 1))) := by
                    show _ = _
                    rw [show (s == (i : Int)) = decide (s = (i : Int)) from rfl]
                    exact decide_eq_decide.2 ⟨fun h => (HWS.out _).2 (Or.inr h.symm), fun h => (((HWS.out _).1 h).resolve_left hin).symm⟩
                  clear hin HBB
                  go_wp2_with fail
                  go_quiet ((first
                    | (go_at_call 32; exact Calls.quiet_of_same (HSEC.out _))
                    | (go_at_call 14; exact Calls.quiet_of_same (HS.out _))))
                  go_wp2_with fail
                  go_roundw
                  case rel => exact ⟨kk + 1, _, by omega, by omega, rfl, by go_num, HE, Lib.hid (H8.out.calm ((Fr.refl _ wr).drewN nq))⟩
                  case measure => simp [intOf]; omega
              · have hkk := HKX.out kk hk3 hk4 hl3
                subst hkk
                clear hl3
                have hbb := HBB.out
                rw [← HW'.out] at hbb
                cases b
                case true =>
                  have hin : (i : Int) ∈ W' := of_decide_eq_true hbb.symm
                  have HE : Hid (cntB (wri W') (i + 1) = cntB (wri W') i + 1) := by
                    show _ = _
                    rw [cntB, if_pos (wri_pos.2 hin)]
                  have hcb := cntB_le (wri W') i
                  clear hin hbb HBB
                  go_wp2_with fail
                  go_roundw
                  case rel => exact ⟨i + 1, by omega, by rw [HE.out]; go_num, by go_num, H8⟩
                  case measure => simp [intOf]; omega
                case false =>
                  have hin : ¬ (i : Int) ∈ W' := of_decide_eq_false hbb.symm
                  have HE : Hid (cntB (wri W') (i + 1) = cntB (wri W') i) := by
                    show _ = _
                    rw [cntB, if_neg (fun h => hin (wri_pos.1 h)), Nat.add_zero]
                  clear hin hbb HBB
                  go_wp2_with fail
                  go_roundw
                  case rel => exact ⟨i + 1, by omega, by rw [HE.out], by go_num, H8⟩
                  case measure => simp [intOf]; omega
          · have hia' : i = a := by omega
            subst hia'
            clear hia
            obtain ⟨pl, hpl⟩ : ∃ pl, pl = cntB (wri W') i := ⟨_, rfl⟩
            have HPL0 := Lib.hid hpl
            have hplb : pl ≤ 20 := by have := cntB_le (wri W') i; omega
            rw [← hpl]
            clear hpl
            have hlast : (i : Int) ≤ i := by omega
            have HFR := Lib.hid H7.out.fr
            have HROW := Lib.hid H7.out.row
            go_wp2_with fail
            go_loopw [23] (fun vk wq => ∃ kk : Nat, kk ≤ n ∧ vk = .int .i64 kk ∧ Hid (Fr (fun _ => False) wr wq)) (fun v _ => n - (intOf v).toNat)
            case atStart => exact ⟨0, Nat.zero_le _, rfl, Lib.hid (Fr.refl _ _)⟩
            case round =>
              obtain ⟨kk, hkn, rfl, HFQ⟩ := hrel
              have H8 := Lib.hid (H7.out.calm HFQ.out)
              by_cases hl : kk < n
              · have j1 : (kk : Int) < n := by omega
                have HC := Lib.hid (H8.out.clone)
                go_wp2_with fail
                refine (HC.out).mono ?_
                rintro e wx ⟨xb, rfl, hx⟩
                have HX := Lib.hid hx
                have HMK : Hid ((pl : Int) + 1 = ((pl + 1 : Nat) : Int) ∧ i1.bytes * (pl + 1) ≤ 281474976710656 ∧ pl + 1 ≤ maxLen) := Lib.hid ⟨by omega, by rw [HJ.out.2.2.2]; omega, by unfold maxLen; omega⟩
                clear hx HC
                go_wp2_with (first
                  | ((with_reducible refine wpList_make_full _ ?_ (.tmp 146) (.tmp 146) 34 ?_ wx.heap.size 3 i1 (.int .i64 0) 1 Try.underlying34 HJ.out.1 HJ.out.2.1 HJ.out.2.2.1 .i64 .i64 _ _ (pl + 1) ?_ ?_ HMK.out.1 HMK.out.1 HMK.out.2.1 HMK.out.2.2 (Nat.le_refl _) ?_); (exact rfl); (exact rfl); (exact rfl); (exact rfl); intro wm hom hgm; obtain ⟨cur, hcur, hcl⟩ := made_row hom (Nat.succ_pos _); obtain ⟨⟨q0, q1⟩, q2⟩ := choice_cells (k := kk) hcur hcl; have HFM := Lib.hid ((((Fr.refl (fun _ => False) wx).grown hgm (fun k e => by cases e)).mono (S := fun i => i = wx.heap.size) (fun _ _ e => e.elim)).setCell (p := ⟨wx.heap.size, pl, none⟩) (Or.inl rfl) (.int .i64 kk)); have HGL := Lib.hid (Array.getElem?_eq_some_iff.1 hcur).1; have HQ2 := Lib.hid q2; have hpl1 : (pl : Int) < (pl : Int) + 1 := (by omega); have hpl2 : pl < pl + 1 := (by omega); clear hom hgm hcur hcl q2))
                have HGL2 : Hid (wx.heap.size < (wm.setCell ⟨wx.heap.size, pl, none⟩ (.int .i64 kk)).heap.size) := Lib.hid (by simpa [World.setCell] using HGL.out)
                refine (HX.out.crash haN (by omega) hl HFM.out (Nat.le_refl _) HGL2.out HPL0.out HQ2.out).mono ?_
                rintro e wc ⟨rfl, hc5⟩
                have HC5 := Lib.hid (hc5.read haN)
                clear hc5 q0 q1 HFM HGL HGL2 HQ2 HX
                go_wp2_with fail
                refine (HC5.out).mono ?_
                rintro e wd ⟨gd, kd, rfl, hhd, hFd⟩
                have HFD := Lib.hid (HFQ.out.trans hFd (fun _ _ e => e))
                obtain ⟨_, _, hv2, _, hrow⟩ := HROW.out
                simp only [Value.slice.injEq, Option.some.injEq, Addr.mk.injEq, and_true, true_and] at hv2
                obtain ⟨rfl, rfl⟩ := hv2
                obtain ⟨ge, ke, r1, r2, r3⟩ := hrow wd HFD.out kk hl
                have HSM := Lib.hid (same_two (c1 := kd) (c2 := ke) hhd r2 r3 r3)
                clear hhd hFd hrow r2 r3 HC5
                go_wp2_with fail
                refine (HSM.out).mono ?_
                rintro e wf ⟨rfl, hFf⟩
                have HFF := Lib.hid (HFD.out.trans hFf (fun _ _ e => e))
                clear hFf HSM HFD r1
                go_wp2_with fail
                go_roundw
                case rel => exact ⟨kk + 1, by omega, by go_num, HFF⟩
                case measure => simp [intOf]; omega
              · have hkn' : kk = n := by omega
                subst hkn'
                clear hl
                have HC := Lib.hid (H8.out.crash haN (by omega) HL.out)
                go_wp2_with fail
                refine (HC.out).mono ?_
                rintro e wc ⟨rfl, I, ho6⟩
                have HC6 := Lib.hid (ho6.read haN)
                clear ho6 HC H8 HFQ HROW HFR H7
                go_wp2_with fail
                refine (HC6.out).mono ?_
                rintro e wd ⟨gd, kd, rfl, hhd, ho6⟩
                have HDH := Lib.hid hhd
                have H9 := Lib.hid ho6
                clear hhd ho6 HC6
                go_wp2_with fail
                go_loopw [29, 30] (fun vf vk wq => ∃ (k5 : Nat) (b : Bool), k5 ≤ kk ∧ vf = .bool b ∧ vk = .int .i64 k5 ∧ Hid (b = fnd G (I i) k5) ∧ Hid (Fr (fun _ => False) wd wq)) (fun _ v _ => kk - (intOf v).toNat)
                case atStart => exact ⟨0, false, Nat.zero_le _, rfl, rfl, Lib.hid rfl, Lib.hid (Fr.refl _ _)⟩
                case round =>
                  obtain ⟨k5, b, hk5, rfl, rfl, HBF, HFQ⟩ := hrel
                  have H10 := Lib.hid (H9.out.calm HFQ.out)
                  by_cases hl : k5 < kk
                  · have j1 : (k5 : Int) < kk := by omega
                    cases b
                    case true =>
                      have HE : Hid (true = fnd G (I i) (k5 + 1)) := by
                        show _ = _
                        rw [fnd, ← HBF.out, Bool.true_or]
                      go_wp2_with fail
                      go_roundw
                      case rel => exact ⟨k5 + 1, _, by omega, rfl, by go_num, HE, HFQ⟩
                      case measure => simp [intOf]; omega
                    case false =>
                      have HE : Hid (decide (I i = G k5) = fnd G (I i) (k5 + 1)) := by
                        show _ = _
                        rw [fnd, ← HBF.out, Bool.false_or]
                      obtain ⟨_, _, hv2, _, hrow⟩ := H9.out.row
                      simp only [Value.slice.injEq, Option.some.injEq, Addr.mk.injEq, and_true, true_and] at hv2
                      obtain ⟨rfl, rfl⟩ := hv2
                      obtain ⟨ge, ke, r1, r2, r3⟩ := hrow wr HFQ.out k5 hl
                      have hIl : (I i).length = 256 := by
                        obtain ⟨j, hj, e⟩ := H9.out.one
                        obtain ⟨_, _, _, _, r4⟩ := hrow wr HFQ.out j hj
                        rw [e]
                        exact r4
                      have HSM := Lib.hid (same_two (c1 := kd) (c2 := ke) (HDH.out.calm HFQ.out) r2 hIl r3)
                      clear hrow r2 r3 hIl
                      go_wp2_with fail
                      refine (HSM.out).mono ?_
                      rintro e wf ⟨rfl, hFf⟩
                      have HFF := Lib.hid (HFQ.out.trans hFf (fun _ _ e => e))
                      clear hFf HSM r1
                      go_wp2_with fail
                      go_roundw
                      case rel => exact ⟨k5 + 1, _, by omega, rfl, by go_num, HE, HFF⟩
                      case measure => simp [intOf]; omega
                  · have hk5' : k5 = kk := by omega
                    subst hk5'
                    clear hl
                    obtain rfl : b = true := by
                      obtain ⟨j, hj, e⟩ := H9.out.one
                      rw [HBF.out]
                      exact fnd_of e hj
                    go_wp2_with fail
                    refine (H10.out.pending).mono ?_
                    rintro e w' ⟨rfl, rfl⟩
                    go_wp2_with fail
                    refine (H10.out.image).mono ?_
                    rintro e wg ⟨⟨g7, k7, rfl, hh7, hl7, _⟩, ho7⟩
                    have H11 := Lib.hid ho7
                    have HH7 := Lib.hid hh7
                    have HL7 := Lib.hid hl7
                    clear ho7 hh7 hl7
                    go_wp2_with fail
                    refine (H11.out.sure).mono ?_
                    rintro e wh ⟨⟨g8, k8, rfl, hh8, _, hF8⟩, ho8⟩
                    have HSM := Lib.hid (diskSynced.same_img (c1 := k7) (c2 := k8) (HH7.out.calm hF8) hh8 HL7.out (by omega))
                    have H12 := Lib.hid ho8.fr
                    clear hh8 hF8 ho8
                    go_wp2_with fail
                    refine (HSM.out).mono ?_
                    rintro e wj ⟨rfl, hFj⟩
                    have HFJ := Lib.hid (H12.out.trans hFj (fun _ _ e => e))
                    clear hFj HSM
                    go_wp2_with fail
                    go_ret
                    exact ⟨rfl, HFJ.out⟩

/-! ### the row -/
theorem own : ownKnob Try.prog.godebug = none := by kernel_rfl

set_option maxRecDepth 100000 in
theorem lifted (os : Os) (started : os.Started) (H : Type) (enc : TypeId × Value → H) :
    ReturnsInHanded {} Try.checked os 5 .any (Rows.diskOneSpec.pre6 enc Try.prog Try.f5 Rows.diskOneRow.domain false) (Rows.diskOneSpec.post enc Try.prog Try.f5 false true false false) := by
  refine returnsInHanded_of_change (C := Try.checked) own started (by kernel_rfl) Try.func5
    (ChangeSpec.witness6 (enc := enc) (C := Try.checked) false ⟨#[], #[.int .i64 0, .slice none 0 0, .slice none 0 0, .slice none 0 0, .int .i64 0], []⟩ 10 (by kernel_rfl) (by kernel_rfl) (by kernel_rfl) (by kernel_rfl)) ?_
  intro W base args ds gs before hval0 hW _ _
  have hval : ∀ (j : Nat) t v, Try.f5.params[j]? = some t → args[j]? = some v → Value.okWide Try.prog W .any base t v := hval0
  have hW' := hW
  obtain ⟨p, q, hA0, hV, rfl, hfz, hnd⟩ := hW
  have hA : DataW.TrodAll enc Try.prog W 0 (fun _ => true) true Try.f5.params.toList args.toList ds p := hA0
  rw [Try.params5] at hA hval
  obtain ⟨v0, vs0, d0, ds0, p0, q0, hargs, rfl, rfl, h0, r0⟩ := trodAll_cons hA
  obtain ⟨v1, vs1, d1, ds1, p1, q1, rfl, rfl, rfl, h1, r1⟩ := trodAll_cons r0
  obtain ⟨v2, vs2, d2, ds2, p2, q2, rfl, rfl, rfl, h2, r2⟩ := trodAll_cons r1
  obtain ⟨v3, vs3, d3, ds3, p3, q3, rfl, rfl, rfl, h3, r3⟩ := trodAll_cons r2
  obtain ⟨v4, vs4, d4, ds4, p4, q4, rfl, rfl, rfl, h4, r4⟩ := trodAll_cons r3
  obtain ⟨rfl, rfl, rfl⟩ := trodAll_nil r4
  obtain rfl : args = #[v0, v1, v2, v3, v4] := by cases args; simp_all
  obtain ⟨rfl, rfl⟩ := trodVars_none hV
  obtain ⟨a0, rfl, rfl, rfl, w0⟩ := open_int Try.underlying3 (hval 0 3 v0 rfl rfl) h0
  obtain ⟨a1, len1, cap1, rfl⟩ := okWide_slice Try.underlying23 (hval 1 23 v1 rfl rfl)
  obtain ⟨a2, len2, cap2, rfl⟩ := okWide_slice Try.underlying23 (hval 2 23 v2 rfl rfl)
  obtain ⟨a3, len3, cap3, rfl⟩ := okWide_slice Try.underlying34 (hval 3 34 v3 rfl rfl)
  obtain ⟨a4, rfl, rfl, rfl, w4⟩ := open_int Try.underlying3 (hval 4 3 v4 rfl rfl) h4
  obtain ⟨D, _, hDc⟩ := acts_open (fun _ => rfl) h1
  obtain ⟨A, hAl, hAc⟩ := acts_open (fun _ => rfl) h2
  obtain ⟨L, _, hLi, _⟩ := ints_open (fun _ => rfl) h3
  clear hA0 hval0
  simp only [List.append_nil, List.nil_append] at hW' 
  have hlt1 : ∀ x ∈ p1, x.block < W.heap.size := fun x hx => by simpa using hW'.lt x (by simp [hx])
  have hlt2 : ∀ x ∈ p2, x.block < W.heap.size := fun x hx => by simpa using hW'.lt x (by simp [hx])
  have hlt3 : ∀ x ∈ p3, x.block < W.heap.size := fun x hx => by simpa using hW'.lt x (by simp [hx])
  refine (walk a0 a4 _ _ _ _ _ A D L W hDc hAl hAc hLi).mono fun e W' ⟨he, hg⟩ => ?_
  subst he
  have hB : Below W.heap.size W W' := hg.below (Nat.le_refl _) (fun _ _ e => e.elim)
  have t1 := Below.trod laidOut (by kernel_rfl) (of_decide_eq_true (by kernel_rfl)) h1 hB hlt1
  have t2 := Below.trod laidOut (by kernel_rfl) (of_decide_eq_true (by kernel_rfl)) h2 hB hlt2
  have t3 := Below.trod laidOut (by kernel_rfl) (of_decide_eq_true (by kernel_rfl)) h3 hB hlt3
  exact ⟨_, rfl, _, _, _, [], _, [], hW', trodAll_cons_mk (shut_bool Try.underlying4 _) trodAll_mk0, trodAll_cons_mk (shut_int Try.underlying3 w0) (trodAll_cons_mk t1 (trodAll_cons_mk t2 (trodAll_cons_mk t3 (trodAll_cons_mk (shut_int Try.underlying3 w4) trodAll_mk0)))), rfl, hB.frame _, fun h => by cases h⟩

theorem over : Rows.diskOneRow.holds Try.pinned (OpenSpec.ofChange Rows.diskOneSpec) :=
  OpenClaim.holds_of_wide 5 Try.f5 rfl rfl rfl rfl rfl rfl rfl ⟨rfl, rfl, rfl, rfl, rfl⟩ rfl rfl rfl rfl rfl (by kernel_rfl) Try.func5 (by kernel_rfl)
    (of_decide_eq_true (by kernel_rfl)) (by unfold Func.isWrapper; first | (rw [if_pos (by decide +kernel)]; kernel_rfl) | (rw [if_neg (by decide +kernel)]; exact ⟨rfl, rfl⟩))
    (fun os started H enc _ => lifted os started H enc)

theorem proved : Rows.DiskOneSaid :=
  over
#print axioms proved


end Go.Proofs.Ytbmbibepcnpngaa.diskOne
