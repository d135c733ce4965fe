/-
  The program's state in memory; spread.
-/
import Derived.Test.YtoikgnmhnlcbhaaDoorDhC
namespace Go.Proofs.YtoikgnmhnlcbhaaDoor.dg
set_option maxRecDepth 100000
open Go.RowKit Go.Maps
set_option maxRecDepth 100000

/-! ### the state -/
def stC (h : List W) (t : Nat) : List Value := ws h ++ [.int .u64 (t : Int)]
/-- At block g lies this state. -/
structure SC (w : World) (g : Nat) (h : List W) (t : Nat) : Prop where
  blk : w.heap[g]? = some (.cells (stC h t).toArray 48 (0, 0))
  len : h.length = 8
theorem stC_at {h : List W} {t k : Nat} (hl : h.length = 8) (hk : k < 8) : (stC h t)[k]? = some (.int .u32 (uw (at_ h k))) := by
  unfold stC
  rw [List.getElem?_append_left (by rw [ws_length]; omega), ws_at (by omega)]
theorem stC_tak {h : List W} {t : Nat} (hl : h.length = 8) : (stC h t)[8]? = some (.int .u64 (t : Int)) := by
  unfold stC
  rw [List.getElem?_append_right (by rw [ws_length]; omega), ws_length, hl]
  rfl
theorem SC.cell {w : World} {g t : Nat} {h : List W} (H : SC w g h t) (k : Nat) (hk : k < 8) : w.cell? ⟨g, k, none⟩ = some (.int .u32 (uw (at_ h k))) := by
  rw [cellAt H.blk, List.getElem?_toArray, stC_at H.len hk]
theorem SC.tak {w : World} {g t : Nat} {h : List W} (H : SC w g h t) : w.cell? ⟨g, 8, none⟩ = some (.int .u64 (t : Int)) := by
  rw [cellAt H.blk, List.getElem?_toArray, stC_tak H.len]
theorem SC.free {w : World} {g t : Nat} {h : List W} (H : SC w g h t) (k : Nat) : w.frozen? ⟨g, k, none⟩ = false := freeAt H.blk k
theorem SC.lt {w : World} {g t : Nat} {h : List W} (H : SC w g h t) : g < w.heap.size := (Array.getElem?_eq_some_iff.1 H.blk).1
theorem SC.keep {w w' : World} {S : Nat → Prop} {g t : Nat} {h : List W} (H : SC w g h t) (hF : Fr S w w') (hg : ¬ S g) : SC w' g h t := ⟨(hF.block g H.lt hg).trans H.blk, H.len⟩
theorem SC.set {w : World} {g t : Nat} {h : List W} (H : SC w g h t) (k : Nat) (hk : k < 8) (c : W) : SC (w.setCell ⟨g, k, none⟩ (.int .u32 (uw c))) g (h.set k c) t := by
  have h1 := heap_setCell_same _ _ k _ _ (.int .u32 (uw c)) H.blk
  refine ⟨?_, (List.length_set).trans H.len⟩
  rw [h1]
  congr 2
  unfold stC
  rw [← ws_set, List.setIfInBounds_toArray, List.set_append_left _ _ (by rw [ws_length, H.len]; omega)]
theorem SC.setT {w : World} {g t : Nat} {h : List W} (H : SC w g h t) (u : Nat) : SC (w.setCell ⟨g, 8, none⟩ (.int .u64 (u : Int))) g h u := by
  have h1 := heap_setCell_same _ _ 8 _ _ (.int .u64 (u : Int)) H.blk
  refine ⟨?_, H.len⟩
  rw [h1]
  congr 2
  unfold stC
  rw [List.setIfInBounds_toArray, List.set_append_right _ _ (by rw [ws_length, H.len]; omega), ws_length, H.len]
  rfl

/-! ### spread -/
/-- Behind k steps. -/
def spV (h : List W) (k : Nat) : List W := (List.range 16).map fun j => if j < 8 then (if j < k then at_ h j else 0#32) else (if j < k + 8 then at_ ivL (j - 8) else 0#32)
theorem spV_length (h : List W) (k : Nat) : (spV h k).length = 16 := by unfold spV; rw [List.length_map, List.length_range]
theorem at_spV (h : List W) (k j : Nat) (hj : j < 16) : at_ (spV h k) j = if j < 8 then (if j < k then at_ h j else 0#32) else (if j < k + 8 then at_ ivL (j - 8) else 0#32) := by
  unfold spV
  conv => lhs; unfold at_
  rw [List.getD_eq_getElem?_getD, List.getElem?_map, List.getElem?_range hj]
  rfl
theorem spV_zero (h : List W) : spV h 0 = no16 := by
  apply ext_at (by rw [spV_length]; rfl)
  intro j hj
  rw [spV_length] at hj
  rw [at_spV _ _ _ hj, if_neg (show ¬ j < 0 by omega), show at_ no16 j = 0#32 from by unfold at_; rw [List.getD_eq_getElem?_getD, List.getElem?_replicate, if_pos hj]; rfl]
  by_cases q : j < 8
  · rw [if_pos q]
  · rw [if_neg q, if_neg (by omega)]
theorem spV_step (h : List W) (k : Nat) (hk : k < 8) : spV h (k + 1) = ((spV h k).set k (at_ h k)).set (k + 8) (at_ ivL k) := by
  apply ext_at (by rw [List.length_set, List.length_set, spV_length, spV_length])
  intro j hj
  rw [spV_length] at hj
  rw [at_set _ _ _ _ (by rw [List.length_set, spV_length]; omega), at_set _ _ _ _ (by rw [spV_length]; omega), at_spV _ _ _ hj, at_spV _ _ _ hj]
  by_cases q : j < 8
  · rw [if_pos q, if_pos q, if_neg (show ¬ k + 8 = j by omega)]
    by_cases e : k = j
    · rw [if_pos e, if_pos (by omega), e]
    · rw [if_neg e]
      by_cases q2 : j < k
      · rw [if_pos q2, if_pos (by omega)]
      · rw [if_neg q2, if_neg (by omega)]
  · rw [if_neg q, if_neg q]
    by_cases e : k + 8 = j
    · rw [if_pos e, if_pos (by omega), ← e, Nat.add_sub_cancel]
    · rw [if_neg e, if_neg (show ¬ k = j by omega)]
      by_cases q2 : j < k + 8
      · rw [if_pos q2, if_pos (by omega)]
      · rw [if_neg q2, if_neg (by omega)]
theorem spV_all (h : List W) (hl : h.length = 8) : spV h 8 = h ++ ivL := by
  apply ext_at (by rw [spV_length, List.length_append, hl]; rfl)
  intro j hj
  rw [spV_length] at hj
  rw [at_spV _ _ _ hj]
  unfold at_
  rw [List.getD_eq_getElem?_getD (l := h ++ ivL)]
  by_cases q : j < 8
  · rw [if_pos q, if_pos q, List.getElem?_append_left (by omega), List.getD_eq_getElem?_getD]
  · rw [if_neg q, if_pos (by omega), List.getElem?_append_right (by omega), hl, List.getD_eq_getElem?_getD]
theorem begV_length (h : List W) (t : Nat) (last : Bool) (hl : h.length = 8) : (begV h t last).length = 16 := by
  unfold begV
  cases last <;> simp [hl, ivL]
set_option maxHeartbeats 16000000 in
theorem pspread (w : World) (hT : DT w) (g t : Nat) (h : List W) (HS : SC w g h t) (ht : t < 18446744073709551616) (last : Bool) :
    Calls Tryd.prog 36 #[.pointer (some ⟨g, 0, none⟩), .bool last] w fun e w' => e = .returned (wsV (begV h t last)) ∧ Fr (fun _ => False) w w' := by
  obtain ⟨W1, hW1⟩ : ∃ W, W = (w.alloc (.cells (ws no16).toArray 59)).alloc (.cells (ws no16).toArray 59) := ⟨_, rfl⟩
  obtain ⟨f, hf⟩ : ∃ f, f = w.heap.size := ⟨_, rfl⟩
  have hsz : (w.alloc (.cells (ws no16).toArray 59)).heap.size = f + 1 := by rw [hf]; exact World.size_alloc _ _
  have hF1 : Fr (fun _ => False) w W1 := by rw [hW1]; exact ((Fr.refl _ _).alloc _).alloc _
  have HR1 : WC W1 f no16 := by rw [hW1, hf]; exact (WC.new (w := w) (v := no16) rfl).keep ((Fr.refl (fun _ => False) _).alloc _) id
  have HM1 : WC W1 (f + 1) (spV h 0) := by rw [hW1, ← hsz, spV_zero]; exact WC.new rfl
  have HI := Lib.hid (show WC W1 (f + 1) (spV h 0) ∧ WC W1 f no16 ∧ Fr (fun _ => False) w W1 from ⟨HM1, HR1, hF1⟩)
  have HT := Lib.hid hT
  have HSS := Lib.hid HS
  have HZ := Lib.hid (show f = w.heap.size ∧ g < f from ⟨hf, by rw [hf]; exact HS.lt⟩)
  have HG := Lib.hid ht
  clear HM1 HR1 hF1 hT HS hsz
  go_enter Tryd.func36, Tryd.ntmps36
  go_wp2_with (first
    | ((with_reducible refine wpList_allocW ?_ ?_ ?_); (exact rfl); (exact rfl)))
  rw [← hW1, ← hf]
  clear hW1 hf
  go_loopw [7] (fun u wr => ∃ k : Nat, k ≤ 8 ∧ u = .int .i64 (k : Int) ∧ Hid (WC wr (f + 1) (spV h k) ∧ WC wr f no16 ∧ Fr (fun _ => False) w wr)) (fun u _ => 8 - (intOf u).toNat)
  case atStart => exact ⟨0, Nat.zero_le _, rfl, HI⟩
  case round =>
    obtain ⟨k, hk, rfl, HK⟩ := hrel
    by_cases hlt : k < 8
    · have hk8 : (k : Int) < 8 := by omega
      have hk16 : (k : Int) + 8 < 16 := by omega
      have HSr := Lib.hid (HSS.out.keep HK.out.2.2 id)
      have HTr := Lib.hid (HT.out.keep HK.out.2.2 id id id)
      have c0 := HSr.out.cell k hlt
      have c1 : wr.cell? ⟨0, k, none⟩ = some (.int .u32 (uw (at_ ivL k))) := by have h := HTr.out.iv k _ (ws_at (show k < ivL.length from hlt)); rwa [Nat.zero_add] at h
      obtain ⟨x, hx⟩ : ∃ x, x = at_ h k := ⟨_, rfl⟩
      obtain ⟨y, hy⟩ : ∃ x, x = at_ ivL k := ⟨_, rfl⟩
      have c2 := HK.out.1.cell k (by omega)
      have f2 := HK.out.1.free k
      have c3 := (HK.out.1.set k x).cell (k + 8) (by omega)
      have f3 := (HK.out.1.set k x).free (k + 8)
      rw [← hx] at c0
      rw [← hy] at c1
      have w8 : IntKind.i64.wrap ((k : Int) + 8) = (k : Int) + 8 := IntWalk.i64_in _ ⟨by omega, by omega⟩
      have HNX := Lib.hid (show WC ((wr.setCell ⟨f + 1, k, none⟩ (.int .u32 (uw x))).setCell ⟨f + 1, k + 8, none⟩ (.int .u32 (uw y))).drew (f + 1) (spV h (k + 1)) ∧ WC ((wr.setCell ⟨f + 1, k, none⟩ (.int .u32 (uw x))).setCell ⟨f + 1, k + 8, none⟩ (.int .u32 (uw y))).drew f no16 ∧ Fr (fun _ => False) w ((wr.setCell ⟨f + 1, k, none⟩ (.int .u32 (uw x))).setCell ⟨f + 1, k + 8, none⟩ (.int .u32 (uw y))).drew from by
        have h1 := (HK.out.1.set k x).set (k + 8) y
        have hF : Fr (· = f + 1) wr ((wr.setCell ⟨f + 1, k, none⟩ (.int .u32 (uw x))).setCell ⟨f + 1, k + 8, none⟩ (.int .u32 (uw y))).drew := (((Fr.refl (· = f + 1) wr).setCell (p := ⟨f + 1, k, none⟩) (Or.inl rfl) _).setCell (p := ⟨f + 1, k + 8, none⟩) (Or.inl rfl) _).drew
        rw [spV_step h k hlt, ← hx, ← hy]
        exact ⟨⟨h1.blk, h1.len⟩, HK.out.2.1.keep hF (by omega), HK.out.2.2.trans hF (fun i hi e => by have := HZ.out.1; omega)⟩)
      clear hx hy
      go_wp2_with fail
      go_region
      go_wp2_with fail
      go_roundw
      case rel => exact ⟨k + 1, by omega, by go_num, HNX⟩
      case measure => simp [intOf]; omega
    · obtain rfl : k = 8 := by omega
      obtain ⟨v0, e0⟩ : ∃ v, v = h ++ ivL := ⟨_, rfl⟩
      obtain ⟨v1, e1⟩ : ∃ v, v = v0.set 12 (at_ v0 12 ^^^ BitVec.ofNat 32 t) := ⟨_, rfl⟩
      obtain ⟨v2, e2⟩ : ∃ v, v = v1.set 13 (at_ v1 13 ^^^ BitVec.ofNat 32 (t / 4294967296)) := ⟨_, rfl⟩
      have hb : begV h t last = if last then v2.set 14 (~~~ at_ v2 14) else v2 := by rw [e2, e1, e0]; rfl
      have HSr := Lib.hid (HSS.out.keep HK.out.2.2 id)
      have HV0 := Lib.hid (show WC wr (f + 1) v0 from by rw [e0, ← spV_all h HSS.out.len]; exact HK.out.1)
      have c0 := HV0.out.cell 12 (by decide)
      have f0 := HV0.out.free 12
      have c1 := HSr.out.tak
      have t1 : (t : Int) % 4294967296 = uw (BitVec.ofNat 32 t) := by rw [uw_ofNat]; omega
      have t2 : (t : Int) / 4294967296 = uw (BitVec.ofNat 32 (t / 4294967296)) := by rw [uw_ofNat]; omega
      have s1 := uw_xor (at_ v0 12) (BitVec.ofNat 32 t)
      have s2 := uw_xor (at_ v1 13) (BitVec.ofNat 32 (t / 4294967296))
      have tw : IntKind.u64.wrap (t : Int) = (t : Int) := by rw [IntKind.wrap_u64]; have := HG.out; omega
      have HK2 := Lib.hid HK.out.2
      have E1 := Lib.hid e1
      have E2 := Lib.hid e2
      have HB := Lib.hid hb
      clear HK HI hk hlt e0 e1 e2 hb
      go_wp2_with fail
      go_region
      obtain ⟨x1, hx⟩ : ∃ u, u = (wr.setCell ⟨f + 1, 12, none⟩ (.int .u32 (uw (at_ v0 12 ^^^ BitVec.ofNat 32 t)))).drew := ⟨_, rfl⟩
      have HF1 := Lib.hid (show Fr (· = f + 1) wr x1 from by rw [hx]; exact ((Fr.refl (· = f + 1) wr).setCell (p := ⟨f + 1, 12, none⟩) (Or.inl rfl) _).drew)
      have HV1 := Lib.hid (show WC x1 (f + 1) v1 from by rw [hx, E1.out]; exact ⟨(HV0.out.set 12 _).blk, (HV0.out.set 12 _).len⟩)
      have HS1 := Lib.hid (HSr.out.keep HF1.out (by have := HZ.out.2; omega))
      rw [← hx]
      clear hx c0 f0 c1 s1 t1
      have c0 := HV1.out.cell 13 (by decide)
      have f0 := HV1.out.free 13
      have c1 := HS1.out.tak
      go_wp2_with fail
      go_region
      obtain ⟨x2, hx⟩ : ∃ u, u = (x1.setCell ⟨f + 1, 13, none⟩ (.int .u32 (uw (at_ v1 13 ^^^ BitVec.ofNat 32 (t / 4294967296))))).drew := ⟨_, rfl⟩
      have HF2 := Lib.hid (show Fr (· = f + 1) wr x2 from by rw [hx]; exact (HF1.out.setCell (p := ⟨f + 1, 13, none⟩) (Or.inl rfl) _).drew)
      have HV2 := Lib.hid (show WC x2 (f + 1) v2 from by rw [hx, E2.out]; exact ⟨(HV1.out.set 13 _).blk, (HV1.out.set 13 _).len⟩)
      rw [← hx]
      clear hx c0 f0 c1 s2 t2 tw
      have HR2 := Lib.hid (show WC x2 f no16 ∧ Fr (fun _ => False) w x2 from ⟨HK2.out.1.keep HF2.out (by omega), HK2.out.2.trans HF2.out (fun i hi e => by have := HZ.out.1; omega)⟩)
      have HBL := Lib.hid (begV_length h t last HSS.out.len)
      cases last
      · have HE := Lib.hid (show WC x2 (f + 1) (begV h t false) from by rw [HB.out]; exact HV2.out)
        go_wp2_with (first
          | ((with_reducible refine wpList_loadW ?_ (.tmp 5) ?_ (f + 1) (begV h t false) HE.out ?_ ?_); (exact rfl); (exact rfl); (exact rfl))
          | ((with_reducible refine wpList_storeW ?_ (.tmp 4) (.tmp 49) ?_ f (begV h t false) no16 HBL.out HR2.out.1 ?_ ?_ ?_); (exact rfl); (exact rfl); (exact rfl); (exact rfl); intro w4 h4 hF4 hs4; have H4 := Lib.hid h4; have HF4 := Lib.hid hF4; clear h4 hF4 hs4))
        try go_frame
        exact bodyPost_ret (v := wsV (begV h t false)) (results_W rfl _ _ f (begV h t false) H4.out rfl) rfl ⟨rfl, HR2.out.2.trans HF4.out (fun i hi e => by have := HZ.out.1; omega)⟩
      · have hsg : IntKind.u32.signed = false := rfl
        have c0 := HV2.out.cell 14 (by decide)
        have f0 := HV2.out.free 14
        have s1 := uw_not (at_ v2 14)
        have HE := Lib.hid (show WC (x2.setCell ⟨f + 1, 14, none⟩ (.int .u32 (uw (~~~ at_ v2 14)))) (f + 1) (begV h t true) ∧ WC (x2.setCell ⟨f + 1, 14, none⟩ (.int .u32 (uw (~~~ at_ v2 14)))) f no16 ∧ Fr (fun _ => False) w (x2.setCell ⟨f + 1, 14, none⟩ (.int .u32 (uw (~~~ at_ v2 14)))) from by
          have hF : Fr (· = f + 1) x2 (x2.setCell ⟨f + 1, 14, none⟩ (.int .u32 (uw (~~~ at_ v2 14)))) := (Fr.refl (· = f + 1) x2).setCell (p := ⟨f + 1, 14, none⟩) (Or.inl rfl) _
          refine ⟨?_, HR2.out.1.keep hF (by omega), HR2.out.2.setCell (p := ⟨f + 1, 14, none⟩) (Or.inr (by have := HZ.out.1; show w.heap.size ≤ f + 1; omega)) _⟩
          rw [HB.out]
          exact HV2.out.set 14 _)
        have hmx : bits .xor .u32 IntKind.u32.max (uw (at_ v2 14)) = uw (~~~ at_ v2 14) := s1
        go_wp2_with (first
          | ((with_reducible refine wpList_loadW ?_ (.tmp 5) ?_ (f + 1) (begV h t true) HE.out.1 ?_ ?_); (exact rfl); (exact rfl); (exact rfl))
          | ((with_reducible refine wpList_storeW ?_ (.tmp 4) (.tmp 49) ?_ f (begV h t true) no16 HBL.out HE.out.2.1 ?_ ?_ ?_); (exact rfl); (exact rfl); (exact rfl); (exact rfl); intro w4 h4 hF4 hs4; have H4 := Lib.hid h4; have HF4 := Lib.hid hF4; clear h4 hF4 hs4))
        try go_frame
        exact bodyPost_ret (v := wsV (begV h t true)) (results_W rfl _ _ f (begV h t true) H4.out rfl) rfl ⟨rfl, HE.out.2.2.trans HF4.out (fun i hi e => by have := HZ.out.1; omega)⟩
end Go.Proofs.YtoikgnmhnlcbhaaDoor.dg
