/-
  DiskPlays: a disk answers as the document's does, whatever is called.
-/
import Derived.Test.YtbmbibepcnpngaaStart
import Derived.Test.YtbmbibepcnpngaaPFull
import Derived.Test.YtbmbibepcnpngaaPInts
import Derived.Test.YtbmbibepcnpngaaWorks
import Derived.SizedLaws
import Derived.Deep.RegionHeld3
import Derived.Deep.DeepCutAuto
import Derived.Deep.CutBlock
namespace Go.Proofs.Ytbmbibepcnpngaa.diskPlays
open Go.RowKit Go.Maps Go.ChangeShapes Go.WideShapes Go.Deep Go.Proofs.Ytbmbibepcnpngaa.play

/-- The copied call in its block. -/
def ActB (w : World) (g : Nat) (a : ActP) : Prop := w.heap[g]? = some (.cells #[.int .i64 a.what, .int .i64 a.where_, .int .i64 a.num, .int .u8 (a.fill.toNat : Int), .slice a.pa a.picks.length a.pc] 36 (0, 0))

theorem moreI {w : World} {B B' : Nat} {A : Option Addr} {l : List Int} (h : RdI w B A l) (hB : B ≤ B') : RdI w B' A l := ⟨fun hne => by
  obtain ⟨blk, off, hp, hb, hc⟩ := h.1 hne
  exact ⟨blk, off, hp, by omega, hc⟩, h.2⟩
theorem ActB.ty {w : World} {g : Nat} {a : ActP} (h : ActB w g a) : rf.Ty w 36 g := ⟨_, h⟩
theorem ActB.calm {w w' : World} {g : Nat} {a : ActP} (h : ActB w g a) (hF : Fr (fun _ => False) w w') : ActB w' g a := (hF.block g h.ty.lt id).trans h
theorem ActB.keep {w w' : World} {g : Nat} {a : ActP} (h : ActB w g a) (hK : Keep w w') : ActB w' g a := (hK.2 _ g h.ty (by decide)).trans h
theorem ActB.c0 {w : World} {g : Nat} {a : ActP} (h : ActB w g a) : w.cell? ⟨g, 0, none⟩ = some (.int .i64 a.what) := by rw [cellAt h]; rfl
theorem ActB.c1 {w : World} {g : Nat} {a : ActP} (h : ActB w g a) : w.cell? ⟨g, 1, none⟩ = some (.int .i64 a.where_) := by rw [cellAt h]; rfl
theorem ActB.c2 {w : World} {g : Nat} {a : ActP} (h : ActB w g a) : w.cell? ⟨g, 2, none⟩ = some (.int .i64 a.num) := by rw [cellAt h]; rfl
theorem ActB.c3 {w : World} {g : Nat} {a : ActP} (h : ActB w g a) : w.cell? ⟨g, 3, none⟩ = some (.int .u8 (a.fill.toNat : Int)) := by rw [cellAt h]; rfl
theorem ActB.c4 {w : World} {g : Nat} {a : ActP} (h : ActB w g a) : w.cell? ⟨g, 4, none⟩ = some (.slice a.pa a.picks.length a.pc) := by rw [cellAt h]; rfl

theorem ActB.keepA {w w' : World} {g : Nat} {a : ActP} (h : ActB w g a) (hK : KeepA w w') : ActB w' g a := (hK g h.ty).trans h

set_option maxRecDepth 100000 in
set_option maxHeartbeats 40000000 in
theorem walk (a0 : Int) (pI : Option Addr) (capI : Nat) (l : List UInt8) (pA : Option Addr) (capA : Nat) (A : List ActP) (w : World) (hI : Rd w w.heap.size pI l) (hIn : pI = none → capI = 0) (hIc : l.length ≤ capI) (hIl : l.length ≤ 140737488351232) (hA : ActsP w w.heap.size pA A) (hAl : A.length ≤ 9223372036854775807) :
    Calls Try.prog 3 #[.int .i64 a0, .slice pI l.length capI, .slice pA A.length capA] w fun e w' => e = .returned (.bool true) ∧ Fr (fun _ => False) w w' := by
  have HA := Lib.hid hA
  obtain ⟨n, hn⟩ : ∃ n, n = A.length := ⟨_, rfl⟩
  obtain ⟨m, hm⟩ : ∃ m, m = l.length := ⟨_, rfl⟩
  have hn1 : n ≤ 9223372036854775807 := by omega
  have hm1 : m ≤ 140737488351232 := by omega
  have HBY : Hid (∀ w2, Fr (fun _ => False) w w2 → Calls Try.prog 12 #[.slice pI m capI] w2 fun e w' => NewB w2 l e w') := Lib.hid fun w2 hF => by
    rw [hm]; exact bytes_any w2 pI capI l ((hI.still hF (Nat.le_refl _)).more hF.size) hIn hIl
  have HLO := Lib.hid (fun (w2 : World) (hF : Fr (fun _ => False) w w2) (B : Nat) (A2 : Option Addr) (cap : Nat) (ho : Own w2 B (.slice A2 l.length cap) l) => loads hF pI capI l hI hIc ho hIl hm)
  rw [← hn, ← hm]
  have HLEN := Lib.hid hn
  clear hA hn hI hIn hIc hIl hAl hm
  go_enter Try.func3, Try.ntmps3
  go_wp2_with fail
  refine (news w a0).mono ?_
  rintro e w1 ⟨v7, z8, rfl, hs⟩
  have HS1 := Lib.hid hs
  clear hs
  go_wp2_with fail
  refine (HS1.out).mono ?_
  rintro e w2 ⟨v9, z10, rfl, hs⟩
  have HS := Lib.hid hs
  clear hs HS1
  go_upto_if 34 with (fail)
  go_cut [7, 8, 9, 10] (fun s7 s8 s9 s10 wz => ∃ v7 z8 v9 z10, s7 = v7 ∧ s8 = .int .i64 z8 ∧ s9 = v9 ∧ s10 = .int .i64 z10 ∧ Hid (Begun w v7 z8 v9 z10 wz))
  case first =>
    as_aux_lemma =>
      by_cases h0 : 0 < m
      · have h0' : (0 : Int) < m := by omega
        go_wp2_with fail
        refine (HBY.out w2 HS.out.fr).mono ?_
        rintro e w3 ⟨A2, cap2, rfl, ho, hF3⟩
        have HL := Lib.hid (HLO.out w3 (HS.out.fr.trans hF3 (fun _ _ e => e)) _ A2 cap2 ho)
        clear ho hF3
        go_wp2_with fail
        refine (HL.out).mono ?_
        rintro e w4 ⟨v7, z8, rfl, hs⟩
        have HS1 := Lib.hid hs
        clear hs HL
        go_wp2_with fail
        refine (HS1.out).mono ?_
        rintro e w5 ⟨v9, z10, rfl, hs⟩
        have HS5 := Lib.hid hs
        clear hs HS1
        go_wp2_with fail
        go_meet
        exact ⟨_, _, _, _, rfl, rfl, rfl, rfl, HS5⟩
      · have h0' : ¬ (0 : Int) < m := by omega
        go_wp2_with fail
        go_meet
        exact ⟨_, _, _, _, rfl, rfl, rfl, rfl, HS⟩
  obtain ⟨v7', z8', v9', z10', rfl, rfl, rfl, rfl, HS2⟩ := hcut
  clear HS
  rcases HS2.out with ⟨pb, yb, N, hN1, hN2, rfl, rfl, rfl, rfl, hJ⟩ | ⟨rfl, rfl, rfl, rfl, hF⟩
  rotate_left
  · have HF := Lib.hid hF
    clear hF HS2
    go_wp2_with fail
    go_ret
    exact ⟨rfl, HF.out⟩
  have HJ := Lib.hid hJ
  clear hJ HS2
  go_wp2_with fail
  go_loopw [7, 11] (fun d i wr => ∃ k pb : Nat, k ≤ n ∧ k ≤ 200 ∧ i = .int .i64 k ∧ d = .pointer (some ⟨pb, 0, none⟩) ∧ Hid (JtE (fun _ => False) w pb yb N (5000 + 2 * k) wr)) (fun _ i _ => n - (intOf i).toNat)
  case atStart => exact ⟨0, _, Nat.zero_le _, Nat.zero_le _, rfl, rfl, HJ⟩
  case round =>
    obtain ⟨k, pb, hk, hk2, rfl, rfl, HJ⟩ := hrel
    by_cases hlt : k < n ∧ k < 200
    · obtain ⟨hlt1, hlt2⟩ := hlt
      obtain ⟨a, ha⟩ : ∃ a, A[k]? = some a := ⟨_, List.getElem?_eq_getElem (by have := HLEN.out; omega)⟩
      obtain ⟨blk, off, rfl, HK, HRD0⟩ : ∃ blk off, pA = some ⟨blk, off, none⟩ ∧ Hid (ActAt wr w.heap.size blk (off + k * 5) a) ∧ Hid (RdI w w.heap.size a.pa a.picks) := by
        obtain ⟨blk, off, hp, hb, hacts⟩ := HA.out (by rintro rfl; simp at ha)
        exact ⟨blk, off, hp, Lib.hid ((hacts k a ha).kept HJ.out.fr (Nat.le_refl _) hb), Lib.hid (hacts k a ha).rd⟩
      have d0 := HK.out.c0
      have d1 := HK.out.c1
      have d2 := HK.out.c2
      have d3 := HK.out.c3
      have d4 := HK.out.c4
      have h1 : (k : Int) < n := by omega
      have h2 : (k : Int) < 200 := by omega
      clear ha
      go_wp2_with fail
      obtain ⟨x, hx⟩ : ∃ x, x = amongZ a.what 8 := ⟨_, rfl⟩
      have HX : Hid (∀ w, Calls Try.prog 14 #[.int .i64 a.what, .int .i64 8] w fun e w' => e = .returned (.int .i64 x) ∧ w = w') := fun w => by
        rw [hx]; exact among_any w a.what 8 (by omega) (by omega)
      have hxb := amongZ_in (n := a.what) (m := 8) (by omega) (by omega)
      rw [← hx] at hxb
      obtain ⟨hx0, hx1⟩ := hxb
      have HP := Lib.hid (⟨HRD0.out, HK.out.nn, HK.out.len, HK.out.wi, HK.out.ni⟩ : _ ∧ _ ∧ _ ∧ _ ∧ _)
      have HF1 := Lib.hid (show Fr (fun _ => False) wr (wr.alloc (.cells #[.int .i64 a.what, .int .i64 a.where_, .int .i64 a.num, .int .u8 (a.fill.toNat : Int), .slice a.pa a.picks.length a.pc] 36)) from (Fr.refl _ wr).alloc _)
      have HAB := Lib.hid (show ActB (wr.alloc (.cells #[.int .i64 a.what, .int .i64 a.where_, .int .i64 a.num, .int .u8 (a.fill.toNat : Int), .slice a.pa a.picks.length a.pc] 36)) wr.heap.size a from heap_alloc_new wr _)
      clear hx d0 d1 d2 d3 d4
      refine (HX.out _).mono ?_
      rintro e w' ⟨rfl, rfl⟩
      generalize wr.alloc (.cells #[.int .i64 a.what, .int .i64 a.where_, .int .i64 a.num, .int .u8 (a.fill.toNat : Int), .slice a.pa a.picks.length a.pc] 36) = wa at HF1 HAB ⊢
      generalize wr.heap.size = ga at HAB ⊢
      have HJ1 := Lib.hid (HJ.out.calm HF1.out)
      have HB1 := Lib.hid (⟨by omega, by omega⟩ : 5000 + 2 * k + 2 ≤ 900000 ∧ 5000 + 2 * k ≤ 5000 + 2 * k + 2)
      clear HJ HK HF1 HRD0
      go_upto_block 2 with (fail)
      go_cut [7, 13] (fun s7 s13 wz => ∃ qb : Nat, s7 = .pointer (some ⟨qb, 0, none⟩) ∧ s13 = .bool true ∧ Hid (JtE (fun _ => False) w qb yb N (5000 + 2 * k + 2) wz))
      case first =>
        obtain ⟨bv, bt, gv, c, ops, lim, dk, V, T, L, hj⟩ := HJ1.out
        have HI := Lib.hid hj
        have e1 := HAB.out.c1
        have e2 := HAB.out.c2
        have e3 := HAB.out.c3
        have e4 := HAB.out.c4
        clear hj
        by_cases hxw : x ≤ 2
        · as_aux_lemma =>
            go_upto_if 75 with (fail)
            go_cut [75] (fun s75 wz => s75 = .bool true ∧ wa = wz)
            case first =>
              rcases (show x = 0 ∨ x = 1 ∨ x = 2 from by omega) with rfl | rfl | rfl
              all_goals
                go_wp2_with fail
                go_meet
                exact ⟨rfl, rfl⟩
            obtain ⟨rfl, rfl⟩ := hcut
            go_wp2_with fail
            refine (full_one _ a.fill).mono ?_
            rintro e wb ⟨g, rfl, hg, hb, hFb⟩
            have b2 := (HAB.out.calm hFb).c2
            have HO := Lib.hid (⟨hg, hb, hFb⟩ : _ ∧ _ ∧ _)
            clear hg hb hFb
            go_upto_if 84 with (fail)
            go_cut [14] (fun s14 wz => wb = wz ∧ ∃ off nb : Nat, s14 = .slice (some ⟨g, off, none⟩) nb nb ∧ off + nb = 256 ∧ 255 ≤ nb)
            case first =>
              by_cases h77 : a.num = 77
              · have hq : (a.num == 77) = true := by simpa using h77
                go_wp2_with fail
                go_meet
                exact ⟨rfl, 1, 255, rfl, by omega, by omega⟩
              · have hq : (a.num == 77) = false := by simpa using h77
                go_wp2_with fail
                go_meet
                exact ⟨rfl, 0, 256, rfl, by omega, by omega⟩
            obtain ⟨rfl, off, nb, rfl, hon, hnb⟩ := hcut
            have HW := Lib.hid (HI.out.write HB1.out.1 HO.out.2.2.drew HO.out.1 (HO.out.2.1 : OneB wb.drew g a.fill) a.where_ off nb nb (by omega))
            have HAB2 := Lib.hid (HAB.out.calm HO.out.2.2.drew)
            have HG := Lib.hid (show w.heap.size ≤ g from Nat.le_trans HI.out.fr.size HO.out.1)
            have b1 := (HAB.out.calm HO.out.2.2).c1
            have b2 := (HAB.out.calm HO.out.2.2).c2
            have b3 := (HAB.out.calm HO.out.2.2).c3
            have hn256 : (nb : Int) ≤ 256 := by omega
            clear HO HI HAB
            go_upto_region 22 with (fail)
            go_cut [13] (fun s13 wz => s13 = .bool true ∧ Hid (JtE (fun i => i = g) w pb yb N (5000 + 2 * k + 2) wz ∧ OneB wz g a.fill))
            case first =>
              go_region_held3 (fun w' => w'.cell? ⟨ga, 1, none⟩ = some (.int .i64 a.where_) ∧ w'.cell? ⟨ga, 3, none⟩ = some (.int .u8 (a.fill.toNat : Int)))
                (first
                  | exact ⟨HAB2.out.c1, HAB2.out.c3⟩
                  | exact ⟨HA3.out.c1, HA3.out.c3⟩
                  | exact ⟨HA4.out.c1, HA4.out.c3⟩
                  | exact ⟨HA5.out.c1, HA5.out.c3⟩)
                (first
                  | (go_at_call 16; (refine (HW.out).mono ?_); rintro e w3 ⟨z, rfl, hF3, hK3, hn3⟩; have HN3 := Lib.hid hn3; have HA3 := Lib.hid (HAB2.out.keep hK3); clear hF3 hK3 hn3)
                  | (go_at_call 15; (refine (full_one _ a.fill).mono ?_); rintro e w4 ⟨g2, rfl, hg2, hb2, hF4⟩; have HY := Lib.hid (HN3.out w4 hF4 g2 256 hg2 hb2); have HA4 := Lib.hid (HA3.out.calm hF4); clear hg2 hb2 hF4)
                  | (go_at_call 17; (refine (HY.out).mono ?_); rintro e w5 ⟨rfl, hk5, hb5, hJ5⟩; have HJ5 := Lib.hid hJ5; have HO5 := Lib.hid hb5; have HA5 := Lib.hid (HA4.out.keepA hk5); clear hb5 hJ5 hk5))
              all_goals
                go_wp2_with fail
                go_meet
                exact ⟨by simp, Lib.hid ⟨HJ5.out, HO5.out⟩⟩
            obtain ⟨rfl, HZ⟩ := hcut
            clear HW HAB2 b1 b2 b3
            go_wp2_with fail
            go_loopw [15] (fun v wq => ∃ kk : Nat, kk ≤ nb ∧ v = .int .i64 kk ∧ Hid (JtE (fun i => i = g) w pb yb N (5000 + 2 * k + 2) wq ∧ ∃ cs, wq.heap[g]? = some (.cells cs 5 (0, 0)) ∧ cs.size = 256)) (fun v _ => nb - (intOf v).toNat)
            case atStart => exact ⟨0, Nat.zero_le _, rfl, Lib.hid ⟨HZ.out.1, _, HZ.out.2, by simp [secC, cellsOf, one_length]⟩⟩
            case round =>
              obtain ⟨kk, hkk, rfl, HQ⟩ := hrel
              by_cases hlk : kk < nb
              · obtain ⟨hJq, cs, hb, hsz⟩ := HQ.out
                obtain ⟨u, hu⟩ : ∃ u, wr.cell? ⟨g, off + kk, none⟩ = some u := ⟨cs[off + kk]'(by omega), by rw [cellAt hb]; exact Array.getElem?_eq_getElem _⟩
                have hf := freeAt hb (off + kk)
                have HN := Lib.hid (show JtE (fun i => i = g) w pb yb N (5000 + 2 * k + 2) (wr.setCell ⟨g, off + kk, none⟩ (.int .u8 255)) ∧ ∃ cs, (wr.setCell ⟨g, off + kk, none⟩ (.int .u8 255)).heap[g]? = some (.cells cs 5 (0, 0)) ∧ cs.size = 256 from ⟨hJq.lent HG.out ⟨_, hb⟩ (rf.fr_set wr g _ _), _, heap_setCell_same _ _ _ _ _ (.int .u8 255) hb, by simpa using hsz⟩)
                have hu2 : wr.cell? ⟨g, kk + off, none⟩ = some u := by rw [Nat.add_comm]; exact hu
                have hf2 : wr.frozen? ⟨g, kk + off, none⟩ = false := by rw [Nat.add_comm]; exact hf
                clear hb hsz hJq
                go_wp2
                go_roundw
                case rel => first | exact ⟨kk + 1, by omega, by go_num, HN⟩ | exact ⟨kk + 1, by omega, by go_num, (by rw [Nat.add_comm kk off]; exact HN)⟩
                case measure => simp [intOf]; omega
              · have HJ9 := Lib.hid HQ.out.1.give
                have hkn : kk = nb := by omega
                subst hkn
                go_wp2_with fail
                go_meet
                exact ⟨pb, rfl, by simp, HJ9⟩
        · rcases (show x = 3 ∨ x = 4 ∨ x = 5 ∨ x = 6 ∨ x = 7 from by omega) with rfl | rfl | rfl | rfl | rfl
          · as_aux_lemma =>
              go_wp2_with fail
              refine (HI.out.sync HB1.out.1).mono ?_
              rintro e w3 ⟨z, rfl, hn3⟩
              have HN3 := Lib.hid (hn3 w3 (Fr.refl _ _))
              clear hn3
              go_wp2_with fail
              refine (HN3.out).mono ?_
              rintro e w4 ⟨rfl, hJ4⟩
              have HJ4 := Lib.hid hJ4
              clear hJ4 HN3
              go_wp2_with fail
              go_meet
              exact ⟨pb, rfl, by simp, HJ4⟩
          · as_aux_lemma =>
              go_wp2_with fail
              refine (HI.out.read a.where_).mono ?_
              rintro e w3 ⟨v, l3, z, rfl, ⟨A3, cap3, rfl, hrd, hblk⟩, hl3, hF3, hn3⟩
              have b1 := (HAB.out.calm hF3).c1
              have HN3 := Lib.hid (hn3 w3 (Fr.refl _ _))
              have HR3 := Lib.hid (⟨hrd, hblk, hF3⟩ : _ ∧ _ ∧ _)
              have hl3' : l3.length ≤ 256 := by omega
              clear hrd hblk hF3 hn3 hl3
              go_wp2_with fail
              refine (HN3.out).mono ?_
              rintro e w4 ⟨A4, cap4, rfl, hrd4, hF4⟩
              have HS := Lib.hid (same_any w4 A3 A4 w4.heap.size w4.heap.size cap3 cap4 l3 l3 ((HR3.out.1.still hF4 (Nat.le_refl _)).more hF4.size) hrd4 (by omega))
              have HF4 := Lib.hid hF4
              clear hrd4 hF4 HN3
              go_wp2_with fail
              refine (HS.out).mono ?_
              rintro e w5 ⟨rfl, hC5⟩
              first | rw [decide_eq_true (rfl : l3 = l3)] | simp only [decide_true]
              have hF5 : Fr (fun _ => False) w3 w5 := HF4.out.trans hC5.fr (fun _ _ e => e)
              have HF5 := Lib.hid (HR3.out.2.2.trans hF5 (fun _ _ e => e))
              obtain ⟨n3, hn3⟩ : ∃ n3, n3 = l3.length := ⟨_, rfl⟩
              have HBL : Hid (0 < n3 → ∃ g t cs, A3 = some ⟨g, 0, none⟩ ∧ wa.heap.size ≤ g ∧ w5.heap[g]? = some (.cells cs t (0, 0)) ∧ cs.size = n3) := by
                refine Lib.hid fun h0 => ?_
                obtain ⟨g, t, e, hg, hb⟩ := HR3.out.2.1 (by rintro rfl; simp at hn3; omega)
                exact ⟨g, t, _, e, hg, (hF5.block g (Array.getElem?_eq_some_iff.1 hb).1 id).trans hb, by rw [hn3]; simp [secC, cellsOf]⟩
              rw [← hn3]
              rw [← hn3] at hl3'
              clear hn3 hC5 hF5 HR3 HF4 HS
              go_wp2_with fail
              go_loopw [20] (fun v wq => ∃ kk : Nat, kk ≤ n3 ∧ v = .int .i64 kk ∧ Hid (Fr (fun _ => False) wa wq ∧ (0 < n3 → ∃ g t cs, A3 = some ⟨g, 0, none⟩ ∧ wa.heap.size ≤ g ∧ wq.heap[g]? = some (.cells cs t (0, 0)) ∧ cs.size = n3))) (fun v _ => n3 - (intOf v).toNat)
              case atStart => exact ⟨0, Nat.zero_le _, rfl, Lib.hid ⟨HF5.out, HBL.out⟩⟩
              case round =>
                obtain ⟨kk, hkk, rfl, HQ⟩ := hrel
                by_cases hlk : kk < n3
                · obtain ⟨g, t, cs, rfl, hg, hb, hsz⟩ := HQ.out.2 (by omega)
                  obtain ⟨u, hu⟩ : ∃ u, wr.cell? ⟨g, kk, none⟩ = some u := ⟨cs[kk]'(by omega), by rw [cellAt hb]; exact Array.getElem?_eq_getElem _⟩
                  have hf := freeAt hb kk
                  have HN := Lib.hid (⟨HQ.out.1.setCell (p := ⟨g, kk, none⟩) (Or.inr hg) (.int .u8 254), fun _ => ⟨g, t, _, rfl, hg, heap_setCell_same _ _ _ _ _ (.int .u8 254) hb, by simpa using hsz⟩⟩ : Fr (fun _ => False) wa (wr.setCell ⟨g, kk, none⟩ (.int .u8 254)) ∧ (0 < n3 → ∃ g' t cs, some (⟨g, 0, none⟩ : Addr) = some ⟨g', 0, none⟩ ∧ wa.heap.size ≤ g' ∧ (wr.setCell ⟨g, kk, none⟩ (.int .u8 254)).heap[g']? = some (.cells cs t (0, 0)) ∧ cs.size = n3))
                  clear hb hsz hg
                  go_wp2
                  go_roundw
                  case rel => exact ⟨kk + 1, by omega, by go_num, HN⟩
                  case measure => simp [intOf]; omega
                · have HJ9 := Lib.hid (JtE.big (show JtE (fun _ => False) w pb yb N (5000 + 2 * k) wr from ⟨bv, bt, gv, c, ops, lim, dk, V, T, L, HI.out.calm HQ.out.1⟩) HB1.out.2 (by have := HB1.out.1; omega))
                  have hkn : kk = n3 := by omega
                  subst hkn
                  go_wp2_with fail
                  go_meet
                  exact ⟨pb, rfl, rfl, HJ9⟩
          · as_aux_lemma =>
              go_wp2_with fail
              refine (HI.out.limit a.num HP.out.2.2.2.2).mono ?_
              rintro e w3 ⟨rfl, hk3, hn3⟩
              have HN3 := Lib.hid (hn3 w3 (Fr.refl _ _))
              have b2 := (HAB.out.keep hk3).c2
              clear hn3 hk3
              go_wp2_with fail
              refine (HN3.out).mono ?_
              rintro e w4 ⟨rfl, hJ4⟩
              have HJ4 := Lib.hid (hJ4.big HB1.out.2 (by have := HB1.out.1; omega))
              clear hJ4 HN3
              go_wp2_with fail
              go_meet
              exact ⟨pb, rfl, rfl, HJ4⟩
          · as_aux_lemma =>
              have HPk := Lib.hid (ints_any wa a.pa a.pc a.picks (moreI (HP.out.1.still HI.out.fr (Nat.le_refl _)) HI.out.fr.size) HP.out.2.1 HP.out.2.2.1)
              go_wp2_with fail
              refine (HPk.out).mono ?_
              rintro e w3 ⟨v, rfl, hv, hF3⟩
              have HC := Lib.hid (HI.out.crash HP.out.1 HP.out.2.2.1 hF3 v (hv _ HI.out.good.lt.2.1))
              have b4 := (HAB.out.calm hF3).c4
              have HAB3 := Lib.hid (HAB.out.calm hF3)
              clear hv hF3
              go_wp2_with fail
              refine (HC.out).mono ?_
              rintro e w4 ⟨rfl, hk4, hn4⟩
              have HN4 := Lib.hid (hn4 w4 (Fr.refl _ _) a.pc)
              have b4 := (HAB3.out.keep hk4).c4
              clear hn4 hk4
              go_wp2_with fail
              refine (HN4.out).mono ?_
              rintro e w5 ⟨rfl, hJ5⟩
              have HJ5 := Lib.hid (hJ5.big HB1.out.2 (by have := HB1.out.1; omega))
              clear hJ5 HN4
              go_wp2_with fail
              go_meet
              exact ⟨pb, rfl, rfl, HJ5⟩
          · as_aux_lemma =>
              go_wp2_with fail
              refine (HI.out.clone).mono ?_
              rintro e w3 ⟨qb, rfl, hn3⟩
              have HN3 := Lib.hid hn3
              clear hn3
              go_wp2_with fail
              refine (full_one _ 253).mono ?_
              rintro e w4 ⟨g, rfl, hg4, hb4, hF4⟩
              have HN4 := Lib.hid (HN3.out w4 hF4 g 256 hg4 hb4)
              clear hg4 hb4 hF4
              go_wp2_with fail
              refine (HN4.out).mono ?_
              rintro e w5 ⟨⟨z5, rfl⟩, hn5⟩
              have HN5 := Lib.hid (hn5 w5 (Fr.refl _ _))
              clear hn5
              go_wp2_with fail
              refine (HN5.out).mono ?_
              rintro e w6 ⟨⟨z6, rfl⟩, hJ6⟩
              have HJ6 := Lib.hid (hJ6.big HB1.out.2 (by have := HB1.out.1; omega))
              clear hJ6
              go_wp2_with fail
              go_meet
              exact ⟨qb, rfl, rfl, HJ6⟩
      obtain ⟨qb, rfl, rfl, HJ2⟩ := hcut
      obtain ⟨cc, ops, gvv, capv, q1, q2, q3, q4, q5, q6⟩ := HJ2.out.asks
      have Q1 := Lib.hid q1
      have Q2 := Lib.hid q2
      have Q3 := Lib.hid q3
      have Q5 := Lib.hid q5
      clear q1 q2 q3 q5
      go_wp2_with fail
      go_quiet ((first
        | (go_at_call 29; exact Calls.quiet_of_same (Q1.out _))
        | (go_at_call 30; exact Calls.quiet_of_same (Q2.out _))
        | (go_at_call 31; exact Calls.quiet_of_same (Q3.out _))
        | (go_at_call 32; exact Calls.quiet_of_same (Q5.out _))))
      have HQ := Lib.hid ((HJ2.out.calm ((Fr.refl _ _).drewN nq)).big (B' := 5000 + 2 * (k + 1)) (by omega) (by omega))
      go_wp2_with fail
      go_roundw
      case rel => exact ⟨k + 1, qb, by omega, by omega, by go_num, rfl, HQ⟩
      case measure => simp [intOf]; omega
    · have HX := Lib.hid HJ.out.image
      have HS0 := Lib.hid HJ.out
      have hex : ¬ (k : Int) < n ∨ ((k : Int) < n ∧ ¬ (k : Int) < 200) := by omega
      clear HJ hlt
      rcases hex with h1 | ⟨h1, h2⟩
      all_goals
        as_aux_lemma =>
          go_wp2_with fail
          refine (HX.out).mono ?_
          rintro e x1 ⟨A1, c1, l1, rfl, hl1, hr1, hF1, hn1⟩
          have HN1 := Lib.hid (hn1 x1 (Fr.refl _ _))
          have HR1 := Lib.hid (⟨hl1, hr1, hF1⟩ : _ ∧ _ ∧ _)
          clear hl1 hr1 hF1 hn1
          go_wp2_with fail
          refine (HN1.out).mono ?_
          rintro e x2 ⟨A2, c2, rfl, hr2, hF2⟩
          have HS := Lib.hid (image_same (c1 := c1) (c2 := c2) HR1.out.1 HR1.out.2.1 hF2 hr2 (HR1.out.2.2.trans hF2 (fun _ _ e => e)))
          clear hr2 hF2 HN1 HR1
          go_wp2_with fail
          refine (HS.out).mono ?_
          rintro e x3 ⟨rfl, hF3⟩
          have HSu := Lib.hid (HS0.out.calm hF3).sure
          have HF3 := Lib.hid hF3
          clear hF3 HS
          go_wp2_with fail
          refine (HSu.out).mono ?_
          rintro e x4 ⟨A3, c3, l3, rfl, hl1, hr1, hF1, hn1⟩
          have HN1 := Lib.hid (hn1 x4 (Fr.refl _ _))
          have HR1 := Lib.hid (⟨hl1, hr1, HF3.out.trans hF1 (fun _ _ e => e)⟩ : _ ∧ _ ∧ _)
          clear hl1 hr1 hF1 hn1 HF3
          go_wp2_with fail
          refine (HN1.out).mono ?_
          rintro e x5 ⟨A4, c4, rfl, hr2, hF2⟩
          have HS := Lib.hid (image_same (c1 := c3) (c2 := c4) HR1.out.1 HR1.out.2.1 hF2 hr2 (HR1.out.2.2.trans hF2 (fun _ _ e => e)))
          clear hr2 hF2 HN1 HR1
          go_wp2_with fail
          refine (HS.out).mono ?_
          rintro e x6 ⟨rfl, hF6⟩
          have HF6 := Lib.hid hF6
          clear hF6 HS
          go_wp2_with fail
          refine (works_any _).mono ?_
          rintro e x7 ⟨rfl, hF7⟩
          have HFin := Lib.hid ((HS0.out.fr.trans HF6.out (fun _ _ e => e)).trans hF7 (fun _ _ e => e))
          clear hF7
          go_wp2_with fail
          go_ret
          exact ⟨rfl, HFin.out⟩

/-! ### the row -/
theorem own : ownKnob Try.prog.godebug = none := by kernel_rfl
set_option maxRecDepth 100000 in
theorem lifted (os : Os) (started : os.Started) (H : Type) (enc : TypeId × Value → H) :
    ReturnsInHanded {} Try.checked os 3 .any (Rows.diskPlaysSpec.pre6 enc Try.prog Try.f3 Rows.diskPlaysRow.domain false) (Rows.diskPlaysSpec.post enc Try.prog Try.f3 false true false false) := by
  refine returnsInHanded_of_change_sized (C := Try.checked) own started (by kernel_rfl) Try.func3
    (ChangeSpec.witness6 (enc := enc) (C := Try.checked) false ⟨#[], #[.int .i64 0, .slice none 0 0, .slice none 0 0], []⟩ 8 (by kernel_rfl) (by kernel_rfl) (by kernel_rfl) (by kernel_rfl)) ?_
  intro W base args ds gs before hval0 hW _ hsz0 _
  have hval : ∀ (j : Nat) t v, Try.f3.params[j]? = some t → args[j]? = some v → Value.okWide Try.prog W .any base t v := hval0
  have hsz : (DataW.weightsEach Try.prog (Try.f3.params.toList ++ Rows.diskPlaysSpec.plain.varTypes Try.prog) (ds ++ gs)).all (· ≤ reachBytes) = true := hsz0
  have hW' := hW
  obtain ⟨p, q, hA0, hV, rfl, hfz, hnd⟩ := hW
  have hA : DataW.TrodAll enc Try.prog W 0 (fun _ => true) true Try.f3.params.toList args.toList ds p := hA0
  rw [Try.params3] at hA hval hsz
  obtain ⟨v0, vs0, d0, ds0, p0, q0, hargs, rfl, rfl, h0, r0⟩ := trodAll_cons hA
  obtain ⟨v1, vs1, d1, ds1, p1, q1, rfl, rfl, rfl, h1, r1⟩ := trodAll_cons r0
  obtain ⟨v2, vs2, d2, ds2, p2, q2, rfl, rfl, rfl, h2, r2⟩ := trodAll_cons r1
  obtain ⟨rfl, rfl, rfl⟩ := trodAll_nil r2
  obtain rfl : args = #[v0, v1, v2] := by cases args; simp_all
  obtain ⟨rfl, rfl⟩ := trodVars_none hV
  obtain ⟨a0, rfl, rfl, rfl, w0⟩ := open_int Try.underlying3 (hval 0 3 v0 rfl rfl) h0
  obtain ⟨A1, cap1, l1, rfl, hr1, hA1, hc1, hl1⟩ := bytes_open (fun _ => rfl) (fun el sp (e : d1 = .slice el sp) => sized_slice hsz (j := 1) (t := 22) (e := 5) rfl (by rw [e]; rfl) Try.underlying22) (hval 1 22 v1 rfl rfl) h1
  obtain ⟨a2, len2, cap2, rfl⟩ := okWide_slice Try.underlying23 (hval 2 23 v2 rfl rfl)
  have hw2 : ∀ n ∈ d2.weights Try.prog 23, n ≤ reachBytes := fun n hn => by
    have := List.all_eq_true.1 hsz n (by simp [DataW.weightsEach, hn])
    simpa using this
  obtain ⟨A, rfl, hlen2, hAc⟩ := acts_openP (fun _ => rfl) hw2 h2
  clear hA0 hval0 hsz0
  simp only [List.append_nil] at hW'
  try simp only [List.nil_append] at hW'
  have hlt1 : ∀ x ∈ p1, x.block < W.heap.size := fun x hx => by simpa using hW'.lt x (by simp [hx])
  have hlt2 : ∀ x ∈ p2, x.block < W.heap.size := fun x hx => by simpa using hW'.lt x (by simp [hx])
  refine (walk a0 A1 cap1 l1 _ _ A W hr1 hA1 hc1 hl1 hAc hlen2).mono fun e W' ⟨he, hg⟩ => ?_
  subst he
  have hB : Below W.heap.size W W' := hg.below (Nat.le_refl _) (fun _ _ e => e.elim)
  have t1 := Below.trod laidOut (by kernel_rfl) (of_decide_eq_true (by kernel_rfl)) h1 hB hlt1
  have t2 := Below.trod laidOut (by kernel_rfl) (of_decide_eq_true (by kernel_rfl)) h2 hB hlt2
  exact ⟨_, rfl, _, _, _, [], _, [], hW', trodAll_cons_mk (shut_bool Try.underlying4 _) trodAll_mk0, trodAll_cons_mk (shut_int Try.underlying3 w0) (trodAll_cons_mk t1 (trodAll_cons_mk t2 trodAll_mk0)), rfl, hB.frame _, fun h => by cases h⟩

theorem over : Rows.diskPlaysRow.holds Try.pinned (OpenSpec.ofChange Rows.diskPlaysSpec) :=
  OpenClaim.holds_of_wide 3 Try.f3 rfl rfl rfl rfl rfl rfl rfl ⟨rfl, rfl, rfl, rfl, rfl⟩ rfl rfl rfl rfl rfl (by kernel_rfl) Try.func3 (by kernel_rfl)
    (of_decide_eq_true (by kernel_rfl)) (by unfold Func.isWrapper; first | (rw [if_pos (by decide +kernel)]; kernel_rfl) | (rw [if_neg (by decide +kernel)]; exact ⟨rfl, rfl⟩))
    (fun os started H enc _ => lifted os started H enc)

theorem proved : Rows.DiskPlaysSaid :=
  over
#print axioms proved

end Go.Proofs.Ytbmbibepcnpngaa.diskPlays
