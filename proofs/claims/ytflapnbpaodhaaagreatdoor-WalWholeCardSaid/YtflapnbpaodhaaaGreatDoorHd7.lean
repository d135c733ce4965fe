/-
  The chapter's example.
-/
import Derived.Test.YtflapnbpaodhaaaGreatDoorHd6
namespace Go.Proofs.YtflapnbpaodhaaaGreatDoor.hd
set_option maxRecDepth 100000
open Go.RowKit Go.Maps ds
set_option maxRecDepth 100000

theorem format_live {w0 w : World} {pb N B : Nat} {d : DS} (hD : IsD w0 pb N B d w) (hL : Live d) (hT : cr.Tab w) (at_ rc : Nat) (h1 : 1 ≤ rc) (h2 : rc ≤ 100) (h3 : at_ + rc < N) (h4 : N ≤ 4096) (hB : B + 4 ≤ 100000000) :
    Calls Tryz.prog 22 #[.pointer (some ⟨pb, 0, none⟩), .int .i64 (at_ : Int), .int .i64 (rc : Int)] w fun e w' => e = .returned (.int .i64 0) ∧ ∃ d', Did d (wrI d.img [((at_ : Int), hdrL 0 [])]) 2 d' ∧ IsD w0 pb N (B + 4) d' w' ∧ Keep w w' := by
  obtain ⟨a, b⟩ := stepR_live [((at_ : Int), hdrL 0 [])] d hL
  refine (format_ok w0 w pb N B d hD hT at_ rc h1 h2 h3 h4 hB).mono ?_
  rintro e w' ⟨rfl, hD', hK⟩
  rw [a]
  exact ⟨rfl, _, b, hD', hK⟩
theorem open_live {w0 w : World} {pb N B : Nat} {d : DS} (hD : IsD w0 pb N B d w) (hL : Live d) (hT : cr.Tab w) (at_ rc : Nat) (h1 : 1 ≤ rc) (h2 : rc ≤ 100) (h3 : at_ + rc < N) (h4 : N ≤ 4096) (hB : B + 210 ≤ 100000000) {turn : Nat} (ht : turn < 4294967296) (hh : hdOf d at_ = hdrL turn []) :
    Calls Tryz.prog 14 #[.pointer (some ⟨pb, 0, none⟩), .int .i64 (at_ : Int), .int .i64 (rc : Int)] w fun e w' => ∃ wb, e = .returned (.tuple #[.pointer (some ⟨wb, 0, none⟩), .int .i64 0]) ∧ w.heap.size ≤ wb ∧ w'.heap[wb]? = some (walO pb at_ rc turn false) ∧ IsD w0 pb N (B + 210) d w' ∧ Keep w w' := by
  obtain ⟨a, b⟩ := openR_empty (N := N) (rc := rc) hL ht hh
  refine (open_any w0 w pb N B d hD hT at_ rc h1 h2 h3 h4 hB).mono ?_
  rintro e w' ⟨hK, hD', ⟨wb, rfl, _, hs, hw⟩ | ⟨rfl, hz⟩⟩
  · rw [a] at hD'
    rw [b] at hw
    exact ⟨wb, rfl, hs, hw, hD', hK⟩
  · rw [a] at hz
    exact absurd rfl hz
theorem sec_at {w : World} {g : Nat} {t : TypeId} {c : UInt8} (h : w.heap[g]? = some (.cells (secC (one c)) t (0, 0))) : w.cell? ⟨g, 0, none⟩ = some (.int .u8 (c.toNat : Int)) := by
  rw [cellAt h]
  show (cellsOf (one c)).toArray[0]? = _
  rw [List.getElem?_toArray, cellsOf_get]
  rfl
theorem rdI_cells {w : World} {g : Nat} {l : List Int} (h : w.heap[g]? = some (.cells (l.map fun x => Value.int .i64 x).toArray 3 (0, 0))) (hl : ∀ x ∈ l, -9223372036854775808 ≤ x ∧ x ≤ 9223372036854775807) : RdI w w.heap.size (some ⟨g, 0, none⟩) l :=
  ⟨fun _ => ⟨g, 0, rfl, (Array.getElem?_eq_some_iff.1 h).1, fun j x hj => by
    rw [cellAt h, Nat.zero_add, List.getElem?_toArray, List.getElem?_map, hj]
    rfl⟩, hl⟩

theorem commit_live {w0 w : World} {pb N B wb at_ rc t0 : Nat} {d : DS} (hD : IsD w0 pb N B d w) (hL : Live d) (hT : cr.Tab w) (hwb : w.heap[wb]? = some (walO pb at_ rc t0 false)) (h0 : w0.heap.size ≤ wb) (h2 : rc ≤ 100) (h3 : at_ + rc < N) (h4 : N ≤ 4096) (ht : t0 < 4294967296)
    (p : Option Addr) (cap : Nat) (l : List (Int × List UInt8)) (hS : SlT w p cap l) (hn : l.length ≤ 1000) (hbig : B + 500 ≤ 100000000) (hg : ∀ l', l'.Perm l → l'.Pairwise (fun a b => a.1 ≤ b.1) → refR ((at_ + 1 + rc : Nat) : Int) N rc l' = 0) (hne : l ≠ []) :
    Calls Tryz.prog 12 #[.pointer (some ⟨wb, 0, none⟩), .slice p l.length cap] w fun e w' => e = .returned (.int .i64 0) ∧ ∃ l' d', l'.Perm l ∧ l'.Pairwise (fun a b => a.1 ≤ b.1) ∧ Did d (comI d.img at_ (nextT t0) l') (2 * l'.length + 6) d' ∧ IsD w0 pb N (B + 500) d' w' ∧ w'.heap[wb]? = some (walO pb at_ rc (nextT t0) false) ∧ Keep2 w w' := by
  refine (commit_any w0 w pb N B wb at_ rc t0 d false hD hT hwb h0 h2 h3 h4 ht p cap l hS hn hbig).mono ?_
  rintro e w' ⟨l', hp, hs, rfl, hD', hw', hK⟩
  obtain ⟨a, b⟩ := comR_live (N := N) (at_ := at_) (rc := rc) hL (t0 := t0) (hg l' hp hs) (by rintro rfl; exact hne (List.nil_perm.1 hp))
  rw [a] at hw' ⊢
  exact ⟨rfl, l', _, hp, hs, b, hD', hw', hK⟩
theorem commit_bad {w0 w : World} {pb N B wb at_ rc t0 : Nat} {d : DS} {sp : Bool} (hD : IsD w0 pb N B d w) (hT : cr.Tab w) (hwb : w.heap[wb]? = some (walO pb at_ rc t0 sp)) (h0 : w0.heap.size ≤ wb) (h2 : rc ≤ 100) (h3 : at_ + rc < N) (h4 : N ≤ 4096) (ht : t0 < 4294967296)
    (p : Option Addr) (cap : Nat) (l : List (Int × List UInt8)) (hS : SlT w p cap l) (hn : l.length ≤ 1000) (hbig : B + 500 ≤ 100000000) (z : Int) (hz : z ≠ 0) (hg : ∀ l', l'.Perm l → refR ((at_ + 1 + rc : Nat) : Int) N rc l' = z) :
    Calls Tryz.prog 12 #[.pointer (some ⟨wb, 0, none⟩), .slice p l.length cap] w fun e w' => e = .returned (.int .i64 z) ∧ IsD w0 pb N (B + 500) d w' := by
  refine (commit_any w0 w pb N B wb at_ rc t0 d sp hD hT hwb h0 h2 h3 h4 ht p cap l hS hn hbig).mono ?_
  rintro e w' ⟨l', hp, _, rfl, hD', _, _⟩
  have hr := hg l' hp
  have e : comR N at_ rc d t0 sp l' = (d, z, t0, sp) := by
    unfold comR
    rw [hr, if_pos hz]
  rw [e] at hD' ⊢
  exact ⟨rfl, hD'⟩
def W0 : List (Int × List UInt8) := [(4, one 10), (7, one 9)]
theorem W0_of {l : List (Int × List UInt8)} (hp : l.Perm (blF 9 [7, 4])) (hs : l.Pairwise (fun a b => a.1 ≤ b.1)) : l = W0 :=
  sorted_one l W0 (hp.trans (List.Perm.swap _ _ _)) hs (by simp [W0])
theorem W0_ok : refR ((0 + 1 + 3 : Nat) : Int) 8 3 W0 = 0 := by decide +kernel
theorem W1_of {l : List (Int × List UInt8)} (hp : l.Perm (blF 1 [3])) : l = [(3, one 1)] := List.perm_singleton.1 hp
theorem W1_bad : refR ((0 + 1 + 3 : Nat) : Int) 8 3 [(3, one 1)] = 2 := by decide +kernel

set_option maxHeartbeats 4000000 in
theorem walWorks (w : World) (hT : cr.Tab w) : Calls Tryz.prog 5 #[] w fun e w' => e = .returned (.bool true) ∧ Fr (fun _ => False) w w' := by
  have HT := Lib.hid hT
  have HN := Lib.hid (new_good w 8 (by omega) (by omega))
  clear hT
  go_enter Tryz.func5, Tryz.ntmps5
  go_wp2_with fail
  refine HN.out.mono ?_
  rintro e w1 h1
  obtain ⟨pb, rfl, hD1⟩ := ds.start h1
  have HF := Lib.hid (format_live hD1 Live.new (HT.out.fr hD1.fr) 0 3 (by omega) (by omega) (by omega) (by omega) (by omega))
  clear h1 hD1 HN
  go_wp2_with fail
  refine HF.out.mono ?_
  rintro e w2 ⟨rfl, d2, hd2, hD2, _⟩
  have HO := Lib.hid (open_live hD2 hd2.live (HT.out.fr hD2.fr) 0 3 (by omega) (by omega) (by omega) (by omega) (by omega) (turn := 0) (by omega) (by show d2.img 0 = _; rw [hd2.img]; rfl))
  have HD2 := Lib.hid (⟨hd2, hD2.fr⟩ : _ ∧ _)
  clear hd2 hD2 HF
  go_wp2_with fail
  refine HO.out.mono ?_
  rintro e w3 ⟨wb, rfl, hs3, hw3, hD3, _⟩
  have H3 := Lib.hid (⟨hw3, hD3, Nat.le_trans HD2.out.2.size hs3⟩ : _ ∧ _ ∧ w.heap.size ≤ wb)
  clear hs3 hw3 hD3 HO
  go_wp2_with fail
  have HHM : Hid (Calls Tryz.prog 23 #[.pointer (some ⟨wb, 0, none⟩)] w3 fun e w' => e = .returned (.int .i64 4) ∧ Fr (fun _ => False) w3 w') := Lib.hid (homeW H3.out.1 (by omega) (by omega))
  refine HHM.out.mono ?_
  rintro e w4 ⟨rfl, hF4⟩
  have H4 := Lib.hid (⟨fr_blk hF4 H3.out.1, H3.out.2.1.calm hF4, H3.out.2.2⟩ : w4.heap[wb]? = some (walO pb 0 3 0 false) ∧ _ ∧ w.heap.size ≤ wb)
  clear hF4 HHM H3
  have HCP : Hid (Calls Tryz.prog 24 #[.pointer (some ⟨wb, 0, none⟩)] w4 fun e w' => e = .returned (.int .i64 3) ∧ w4 = w') := Lib.hid (capW H4.out.1)
  go_wp2_with fail
  refine HCP.out.mono ?_
  rintro e w' ⟨rfl, rfl⟩
  have HOP : Hid (Calls Tryz.prog 16 #[.pointer (some ⟨pb, 0, none⟩)] w4 fun e w' => e = .returned (.int .i64 2) ∧ w4 = w') := Lib.hid (by
    have h := H4.out.2.1.opsOf
    rw [HD2.out.1.ops] at h
    exact h)
  go_wp2_with fail
  refine HOP.out.mono ?_
  rintro e w' ⟨rfl, rfl⟩
  clear HOP HCP
  have hFa := (Fr.refl (fun _ => False) w4).alloc (.cells #[.int .i64 7, .int .i64 4] 3)
  have HBL : Hid (Calls Tryz.prog 8 #[.slice (some ⟨w4.heap.size, 0, none⟩) 2 2, .int .u8 9] (w4.alloc (.cells #[.int .i64 7, .int .i64 4] 3)) fun e w' => ∃ p cap', e = .returned (.slice p 2 cap') ∧ SlT w' p cap' (blF 9 [7, 4]) ∧ Fr (fun _ => False) (w4.alloc (.cells #[.int .i64 7, .int .i64 4] 3)) w') := Lib.hid (blocks_any _ 9 (some ⟨w4.heap.size, 0, none⟩) 2 [7, 4] (rdI_cells (l := [7, 4]) (heap_alloc_new _ _) (by simp)) (by simp))
  have H5 := Lib.hid (⟨fr_blk hFa H4.out.1, H4.out.2.1.calm hFa, H4.out.2.2⟩ : (w4.alloc (.cells #[.int .i64 7, .int .i64 4] 3)).heap[wb]? = some (walO pb 0 3 0 false) ∧ _ ∧ w.heap.size ≤ wb)
  clear hFa H4
  go_wp2_with fail
  refine HBL.out.mono ?_
  rintro e w6 ⟨p6, c6, rfl, hS6, hF6⟩
  have HCM : Hid (Calls Tryz.prog 12 #[.pointer (some ⟨wb, 0, none⟩), .slice p6 2 c6] w6 fun e w' => e = .returned (.int .i64 0) ∧ ∃ l' d', l'.Perm (blF 9 [7, 4]) ∧ l'.Pairwise (fun a b => a.1 ≤ b.1) ∧ Did d2 (comI d2.img 0 1 l') (2 * l'.length + 6) d' ∧ IsD w pb 8 (0 + 4 + 210 + 500) d' w' ∧ w'.heap[wb]? = some (walO pb 0 3 1 false) ∧ Keep2 w6 w') :=
    Lib.hid (commit_live (H5.out.2.1.calm hF6) HD2.out.1.live (HT.out.fr (H5.out.2.1.calm hF6).fr) (fr_blk hF6 H5.out.1) H5.out.2.2 (by omega) (by omega) (by omega) (by omega) p6 c6 (blF 9 [7, 4]) hS6 (by simp [blF]) (by omega) (fun l' h1 h2 => by rw [W0_of h1 h2]; exact W0_ok) (by simp [blF]))
  clear hS6 hF6 HBL
  go_wp2_with fail
  refine HCM.out.mono ?_
  rintro e w7 ⟨rfl, l', d3, hp, hs, hd3, hD7, hw7, _⟩
  obtain rfl := W0_of hp hs
  have H7 := Lib.hid (⟨hw7, hD7, H5.out.2.2, hd3⟩ : w7.heap[wb]? = some (walO pb 0 3 1 false) ∧ _ ∧ w.heap.size ≤ wb ∧ _)
  clear hp hs hd3 hD7 hw7 H5 HCM
  have HI4 := Lib.hid (show d3.img 4 = one 10 by
    rw [H7.out.2.2.2.img, comI, wrI_not _ _ (by simp)]
    exact wrI_at (x := (4, one 10)) W0 _ (by simp [W0]) (by simp [W0]))
  have HI7 := Lib.hid (show d3.img 7 = one 9 by
    rw [H7.out.2.2.2.img, comI, wrI_not _ _ (by simp)]
    exact wrI_at (x := (7, one 9)) W0 _ (by simp [W0]) (by simp [W0]))
  have HRa := Lib.hid (H7.out.2.1.read H7.out.2.2.2.live.2 4 (by omega) (by omega))
  rw [HI4.out] at HRa
  go_wp2_with fail
  refine HRa.out.mono ?_
  rintro e w8 ⟨ga, rfl, _, hga, hF8⟩
  have HRb := Lib.hid ((H7.out.2.1.calm hF8).read H7.out.2.2.2.live.2 7 (by omega) (by omega))
  rw [HI7.out] at HRb
  have H8 := Lib.hid (⟨fr_blk hF8 H7.out.1, H7.out.2.1.calm hF8, hga⟩ : w8.heap[wb]? = some (walO pb 0 3 1 false) ∧ _ ∧ _)
  clear hga hF8 HRa
  go_wp2_with fail
  refine HRb.out.mono ?_
  rintro e w9 ⟨gb, rfl, _, hgb, hF9⟩
  have H9 := Lib.hid (⟨fr_blk hF9 H8.out.1, H8.out.2.1.calm hF9, H7.out.2.2.1⟩ : w9.heap[wb]? = some (walO pb 0 3 1 false) ∧ _ ∧ w.heap.size ≤ wb)
  have ca : w9.cell? ⟨ga, 0, none⟩ = some (.int .u8 10) := sec_at (fr_blk hF9 H8.out.2.2)
  have cb : w9.cell? ⟨gb, 0, none⟩ = some (.int .u8 9) := sec_at hgb
  have HOP : Hid (Calls Tryz.prog 16 #[.pointer (some ⟨pb, 0, none⟩)] w9 fun e w' => e = .returned (.int .i64 12) ∧ w9 = w') := Lib.hid (by
    have h := H9.out.2.1.opsOf
    rw [H7.out.2.2.2.ops, HD2.out.1.ops] at h
    exact h)
  have HTN : Hid (Calls Tryz.prog 20 #[.pointer (some ⟨wb, 0, none⟩)] w9 fun e w' => e = .returned (.int .i64 1) ∧ w9 = w') := Lib.hid (turnW H9.out.1)
  clear hgb hF9 HRb H8 HI4 HI7
  go_wp2_with fail
  refine HOP.out.mono ?_
  rintro e w' ⟨rfl, rfl⟩
  go_wp2_with fail
  refine HTN.out.mono ?_
  rintro e w' ⟨rfl, rfl⟩
  have hFb := (Fr.refl (fun _ => False) w9).alloc (.cells #[.int .i64 3] 3)
  have HBL : Hid (Calls Tryz.prog 8 #[.slice (some ⟨w9.heap.size, 0, none⟩) 1 1, .int .u8 1] (w9.alloc (.cells #[.int .i64 3] 3)) fun e w' => ∃ p cap', e = .returned (.slice p 1 cap') ∧ SlT w' p cap' (blF 1 [3]) ∧ Fr (fun _ => False) (w9.alloc (.cells #[.int .i64 3] 3)) w') := Lib.hid (blocks_any _ 1 (some ⟨w9.heap.size, 0, none⟩) 1 [3] (rdI_cells (l := [3]) (heap_alloc_new _ _) (by simp)) (by simp))
  have HA := Lib.hid (⟨fr_blk hFb H9.out.1, H9.out.2.1.calm hFb, H9.out.2.2⟩ : (w9.alloc (.cells #[.int .i64 3] 3)).heap[wb]? = some (walO pb 0 3 1 false) ∧ _ ∧ w.heap.size ≤ wb)
  clear hFb H9 HOP HTN ca cb
  go_wp2_with fail
  refine HBL.out.mono ?_
  rintro e wc ⟨pc, cc, rfl, hSc, hFc⟩
  have HCM : Hid (Calls Tryz.prog 12 #[.pointer (some ⟨wb, 0, none⟩), .slice pc 1 cc] wc fun e w' => e = .returned (.int .i64 2) ∧ IsD w pb 8 (0 + 4 + 210 + 500 + 500) d3 w') :=
    Lib.hid (commit_bad (HA.out.2.1.calm hFc) (HT.out.fr (HA.out.2.1.calm hFc).fr) (fr_blk hFc HA.out.1) HA.out.2.2 (by omega) (by omega) (by omega) (by omega) pc cc (blF 1 [3]) hSc (by simp [blF]) (by omega) 2 (by omega) (fun l' h1 => by rw [W1_of h1]; exact W1_bad))
  clear hSc hFc HBL HA
  go_wp2_with fail
  refine HCM.out.mono ?_
  rintro e wd ⟨rfl, hDd⟩
  have HF := Lib.hid hDd.fr
  clear hDd HCM
  go_wp2_with fail
  go_ret
  exact ⟨rfl, HF.out⟩
end Go.Proofs.YtflapnbpaodhaaaGreatDoor.hd
