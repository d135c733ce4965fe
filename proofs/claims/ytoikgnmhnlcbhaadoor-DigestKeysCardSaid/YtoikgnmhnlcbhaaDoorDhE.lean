/-
  The program's take.
-/
import Derived.Test.YtoikgnmhnlcbhaaDoorDhD
namespace Go.Proofs.YtoikgnmhnlcbhaaDoor.dg
set_option maxRecDepth 100000
open Go.RowKit Go.Maps
set_option maxRecDepth 100000

/-- Behind k steps. -/
def hpV (h v : List W) (k : Nat) : List W := (List.range 8).map fun i => if i < k then at_ h i ^^^ at_ v i ^^^ at_ v (i + 8) else at_ h i
theorem hpV_length (h v : List W) (k : Nat) : (hpV h v k).length = 8 := by unfold hpV; rw [List.length_map, List.length_range]
theorem at_hpV (h v : List W) (k j : Nat) (hj : j < 8) : at_ (hpV h v k) j = if j < k then at_ h j ^^^ at_ v j ^^^ at_ v (j + 8) else at_ h j := by
  unfold hpV
  conv => lhs; unfold at_
  rw [List.getD_eq_getElem?_getD, List.getElem?_map, List.getElem?_range hj]
  rfl
theorem hpV_zero (h v : List W) (hl : h.length = 8) : hpV h v 0 = h := by
  apply ext_at (by rw [hpV_length, hl])
  intro j hj
  rw [hpV_length] at hj
  rw [at_hpV _ _ _ _ hj, if_neg (by omega)]
theorem hpV_step (h v : List W) (k : Nat) (hk : k < 8) : hpV h v (k + 1) = (hpV h v k).set k (at_ (hpV h v k) k ^^^ (at_ v k ^^^ at_ v (k + 8))) := by
  apply ext_at (by rw [List.length_set, hpV_length, hpV_length])
  intro j hj
  rw [hpV_length] at hj
  rw [at_set _ _ _ _ (by rw [hpV_length]; omega), at_hpV _ _ _ _ hj, at_hpV _ _ _ _ hj, at_hpV _ _ _ _ hk, if_neg (show ¬ k < k by omega)]
  by_cases e : k = j
  · rw [if_pos e, if_pos (by omega), e, BitVec.xor_assoc]
  · rw [if_neg e]
    by_cases q : j < k
    · rw [if_pos q, if_pos (by omega)]
    · rw [if_neg q, if_neg (by omega)]
theorem hpV_all (h v : List W) : hpV h v 8 = endV h v 8 := by
  unfold hpV endV
  apply List.map_congr_left
  intro i hi
  rw [if_pos (List.mem_range.1 hi)]
set_option maxHeartbeats 16000000 in
theorem ptake (w : World) (hT : DT w) (g t : Nat) (h : List W) (HS : SC w g h t) (hg : g ≠ 1 ∧ g ≠ 2 ∧ g ≠ 0) (B : Option Addr) (bc : Nat) (b : Bts) (hr : ∀ w', Fr (· = g) w w' → Rd w' w'.heap.size B b) (hl : b.length ≤ 64) (ht : t ≤ 1000000) (last : Bool) :
    Calls Tryd.prog 30 #[.pointer (some ⟨g, 0, none⟩), .slice B b.length bc, .bool last] w fun e w' => e = .returned (.tuple #[]) ∧ SC w' g (blockV h (wordsV b 16) (t + b.length) last) (t + b.length) ∧ Fr (· = g) w w' := by
  have c1 := HS.tak
  have f1 := HS.free 8
  obtain ⟨n, hn⟩ : ∃ n, n = b.length := ⟨_, rfl⟩
  have HN := Lib.hid hn
  obtain ⟨u, hu⟩ : ∃ u, u = t + n := ⟨_, rfl⟩
  have HU := Lib.hid hu
  have t1 : (t : Int) + (n : Int) = (u : Int) := by omega
  have tw : IntKind.u64.wrap (n : Int) = (n : Int) := by rw [IntKind.wrap_u64]; omega
  obtain ⟨w1, hw1⟩ : ∃ x, x = w.setCell ⟨g, 8, none⟩ (.int .u64 (u : Int)) := ⟨_, rfl⟩
  have hF1 : Fr (· = g) w w1 := by rw [hw1]; exact (Fr.refl (· = g) w).setCell (p := ⟨g, 8, none⟩) (Or.inl rfl) _
  have HS1 := Lib.hid (show SC w1 g h u from by rw [hw1]; exact HS.setT u)
  have HT1 := Lib.hid (hT.keep hF1 (Ne.symm hg.2.2) (Ne.symm hg.1) (Ne.symm hg.2.1))
  have HR := Lib.hid hr
  have HG := Lib.hid hg
  have HF1 := Lib.hid hF1
  have HC1 := Lib.hid (pspread w1 HT1.out g u h HS1.out (by omega) last)
  obtain ⟨bv, hbv⟩ : ∃ v, v = begV h u last := ⟨_, rfl⟩
  have HBL := Lib.hid (show bv.length = 16 from by rw [hbv]; exact begV_length h u last HS.len)
  have HB := Lib.hid (show blockV h (wordsV b 16) u last = endV h (roundsV (wordsV b 16) bv 10) 8 from by rw [hbv]; rfl)
  rw [← hbv] at HC1
  rw [← hn]
  rw [← hn] at hl
  have HRW := Lib.hid (fun wx (hF : Fr (· = g) w wx) => pwordsOf wx B bc b (HR.out wx hF) (by rw [← HN.out]; exact hl))
  rw [← hn] at HRW
  rw [← hu, HB.out]
  have HT := Lib.hid ht
  have HHL := Lib.hid HS.len
  clear hT HS hr hg hbv hu hn hF1
  go_enter Tryd.func30, Tryd.ntmps30
  go_wp2_with (first
    | (go_at_call 36; rw [← hw1]; refine HC1.out.mono ?_; rintro e w2 ⟨rfl, hF2⟩; have H2 := Lib.hid (show SC w2 g h u ∧ DT w2 ∧ Fr (· = g) w w2 from ⟨HS1.out.keep hF2 id, HT1.out.keep hF2 id id id, HF1.out.trans hF2 (fun _ _ e => e.elim)⟩); clear hF2)
    | ((with_reducible refine wpList_allocW ?_ ?_ ?_); (exact rfl); (exact rfl))
    | ((with_reducible refine wpList_storeW ?_ (.tmp 6) (.tmp 20) ?_ w2.heap.size bv no16 HBL.out (WC.new rfl) ?_ ?_ ?_); (exact rfl); (exact rfl); (exact rfl); (exact rfl); intro w3 h3 hF3 hs3
       have hF23 := ((Fr.refl (fun _ => False) w2).alloc (.cells (ws no16).toArray 59)).trans (hF3.mono (S := fun i => w2.heap.size ≤ i) (fun i _ e => by omega)) (fun _ hi e => absurd hi (by omega))
       have H3 := Lib.hid (show WC w3 w2.heap.size bv ∧ SC w3 g h u ∧ DT w3 ∧ Fr (· = g) w w3 from ⟨h3, H2.out.1.keep hF23 id, H2.out.2.1.keep hF23 id id id, H2.out.2.2.trans hF23 (fun _ _ e => e.elim)⟩)
       have HRW3 := Lib.hid (HRW.out w3 H3.out.2.2.2)
       clear h3 hF3 hs3 hF23)
    | (go_at_call 38; refine HRW3.out.mono ?_; rintro e w4 ⟨rfl, hF4⟩
       have H4 := Lib.hid (show WC w4 w2.heap.size bv ∧ SC w4 g h u ∧ DT w4 ∧ Fr (· = g) w w4 from ⟨H3.out.1.keep hF4 id, H3.out.2.1.keep hF4 id, H3.out.2.2.1.keep hF4 id id id, H3.out.2.2.2.trans hF4 (fun _ _ e => e.elim)⟩)
       have HGV := Lib.hid (show w2.heap.size ≠ g ∧ w2.heap.size ≠ 1 ∧ w2.heap.size ≠ 2 ∧ w2.heap.size ≠ 0 from by have h1 := H2.out.1.lt; have h2 := H2.out.2.1.lt; omega)
       have HM := Lib.hid (pmixAll w4 H4.out.2.2.1 w2.heap.size bv (wordsV b 16) (wordsV_length _ _) H4.out.1 HGV.out.2)
       clear hF4)
    | (go_at_call 37; refine HM.out.mono ?_; rintro e w5 ⟨rfl, hV5, hF5⟩
       have H5 := Lib.hid (show WC w5 w2.heap.size (roundsV (wordsV b 16) bv 10) ∧ SC w5 g (hpV h (roundsV (wordsV b 16) bv 10) 0) u ∧ Fr (· = g) w w5 from ⟨hV5, by rw [hpV_zero _ _ HHL.out]; exact H4.out.2.1.keep hF5 (Ne.symm HGV.out.1), H4.out.2.2.2.trans hF5 (fun i hi e => by have h1 := H2.out.2.2.size; omega)⟩)
       clear hV5 hF5))
  obtain ⟨v, hv⟩ : ∃ v, v = roundsV (wordsV b 16) bv 10 := ⟨_, rfl⟩
  have HGN := Lib.hid (show w2.heap.size ≠ g ∧ w.heap.size ≤ w2.heap.size from ⟨HGV.out.1, H2.out.2.2.size⟩)
  have HV := Lib.hid hv
  rw [← hv] at H5
  obtain ⟨gv, hgv⟩ : ∃ g, g = w2.heap.size := ⟨_, rfl⟩
  rw [← hgv] at H5 HGN ⊢
  clear hv hgv H4 H3 H2 HM HRW3 HRW HR HC1 HS1 HT1 HF1 hw1 c1 f1
  go_loopw [24] (fun uu wr => ∃ k : Nat, k ≤ 8 ∧ uu = .int .i64 (k : Int) ∧ Hid (WC wr gv v ∧ SC wr g (hpV h v k) u ∧ Fr (· = g) w wr)) (fun u _ => 8 - (intOf u).toNat)
  case atStart => exact ⟨0, Nat.zero_le _, rfl, H5⟩
  case round =>
    obtain ⟨k, hk, rfl, HK⟩ := hrel
    by_cases hlt : k < 8
    · have hk8 : (k : Int) < 8 := by omega
      have hk16 : (k : Int) < 16 := by omega
      have hk17 : (k : Int) + 8 < 16 := by omega
      have w8 : IntKind.i64.wrap ((k : Int) + 8) = (k : Int) + 8 := IntWalk.i64_in _ ⟨by omega, by omega⟩
      have c0 := HK.out.2.1.cell k hlt
      have f0 := HK.out.2.1.free k
      have c1 := HK.out.1.cell k (by omega)
      have c2 := HK.out.1.cell (k + 8) (by omega)
      obtain ⟨x, hx⟩ : ∃ x, x = at_ (hpV h v k) k := ⟨_, rfl⟩
      obtain ⟨y, hy⟩ : ∃ x, x = at_ v k := ⟨_, rfl⟩
      obtain ⟨z, hz⟩ : ∃ x, x = at_ v (k + 8) := ⟨_, rfl⟩
      rw [← hx] at c0
      rw [← hy] at c1
      rw [← hz] at c2
      have s1 := uw_xor y z
      have s2 := uw_xor x (y ^^^ z)
      have HNX := Lib.hid (show WC (wr.setCell ⟨g, k, none⟩ (.int .u32 (uw (x ^^^ (y ^^^ z))))).drew gv v ∧ SC (wr.setCell ⟨g, k, none⟩ (.int .u32 (uw (x ^^^ (y ^^^ z))))).drew g (hpV h v (k + 1)) u ∧ Fr (· = g) w (wr.setCell ⟨g, k, none⟩ (.int .u32 (uw (x ^^^ (y ^^^ z))))).drew from by
        have h1 := HK.out.2.1.set k hlt (x ^^^ (y ^^^ z))
        have hF : Fr (· = g) wr (wr.setCell ⟨g, k, none⟩ (.int .u32 (uw (x ^^^ (y ^^^ z))))).drew := ((Fr.refl (· = g) wr).setCell (p := ⟨g, k, none⟩) (Or.inl rfl) _).drew
        rw [hpV_step h v k hlt, ← hx, ← hy, ← hz]
        exact ⟨HK.out.1.keep hF HGN.out.1, ⟨h1.blk, h1.len⟩, HK.out.2.2.trans hF (fun _ _ e => e)⟩)
      clear hx hy hz
      go_wp2_with fail
      go_region
      go_wp2_with fail
      go_roundw
      case rel => exact ⟨k + 1, by omega, by go_num, HNX⟩
      case measure => simp [intOf]; omega
    · obtain rfl : k = 8 := by omega
      have HE := Lib.hid (show SC wr g (endV h v 8) u from by rw [← hpV_all]; exact HK.out.2.1)
      rw [HV.out] at HE
      go_wp2_with fail
      exact (show _ ∧ _ from ⟨rfl, .tuple #[], results_none rfl _ _ _, rfl, HE.out, HK.out.2.2⟩)
end Go.Proofs.YtoikgnmhnlcbhaaDoor.dg
