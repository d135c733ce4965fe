/-
  The document's disk: New, Sync, Crash.
-/
import Derived.Test.YtbmbibepcnpngaaRfA
import Derived.RegionTactic
import Derived.BigRegion
import Derived.ChangeAlike
namespace Go.Proofs.Ytbmbibepcnpngaa.rf
open Go.RowKit Go.Maps

section
variable {X : Nat → Prop} {base : Nat} {w : World} {yb gv N : Nat} {L : Nat → List (List UInt8)} {left : Int} {off : Bool} {taken : Int}
/-- What an operation may turn: the struct, and the row of the sectors. -/
def Own2 (yb gv : Nat) (i : Nat) : Prop := i = yb ∨ i = gv

def syncL (L : Nat → List (List UInt8)) (j : Nat) : Nat → List (List UInt8) := fun i => if i < j then [lastOf (L i)] else L i
theorem syncL_put (L : Nat → List (List UInt8)) (j : Nat) : updL (syncL L j) j [lastOf (L j)] = syncL L (j + 1) := by
  funext i
  unfold updL syncL
  by_cases h : i = j
  · subst h; rw [if_pos rfl, if_pos (by omega)]
  · rw [if_neg h]
    by_cases h2 : i < j
    · rw [if_pos h2, if_pos (by omega)]
    · rw [if_neg h2, if_neg (by omega)]
theorem syncL_at (L : Nat → List (List UInt8)) (j : Nat) : syncL L j j = L j := by unfold syncL; rw [if_neg (by omega)]
theorem RD.congr (h : RD X base w yb gv N L left off taken) {L' : Nat → List (List UInt8)} (hL : ∀ j, j < N → L j = L' j) : RD X base w yb gv N L' left off taken := by
  obtain ⟨cs, hr, hj⟩ := h.row
  refine ⟨h.yb_ge, h.gv_ge, h.blk, ⟨cs, hr, fun j hjN => ?_⟩⟩
  rw [← hL j hjN]
  exact hj j hjN
/-- One sector is settled. -/
theorem RD.settle (h : RD X base w yb gv N L left off taken) {j g c : Nat} {x : List UInt8} (hb : Byt X w g x) :
    RD X base ((w.alloc (.cells #[.slice (some ⟨g, 0, none⟩) 256 c] 22)).setCell ⟨gv, j, none⟩ (.slice (some ⟨w.heap.size, 0, none⟩) 1 1)) yb gv N (updL L j [x]) left off taken :=
  (h.calm ((Fr.refl _ w).alloc _)).put (b := w.heap.size) (c := 1) (l := [x]) (Vls.one hb)
/-- .. as the walk leaves it. -/
theorem settled {wr : World} {yb gv N : Nat} {L L' : Nat → List (List UInt8)} {left : Int} {off : Bool} {taken : Int} (h : RD X base wr yb gv N L left off taken ∧ Fr (Own2 yb gv) w wr) {j g c : Nat} {x : List UInt8} (hb : Byt X wr g x) (hL : updL L j [x] = L') :
    RD X base ((wr.setCell ⟨gv, j, none⟩ (.slice (some ⟨wr.heap.size, 0, none⟩) 1 1)).alloc (.cells #[.slice (some ⟨g, 0, none⟩) 256 c] 22)).drew yb gv N L' left off taken ∧
      Fr (Own2 yb gv) w ((wr.setCell ⟨gv, j, none⟩ (.slice (some ⟨wr.heap.size, 0, none⟩) 1 1)).alloc (.cells #[.slice (some ⟨g, 0, none⟩) 256 c] 22)).drew := by
  subst hL
  have h1 := h.1.settle (j := j) (c := c) hb
  rw [World.setCell_alloc_past _ _ _ _ h.1.tyG.lt] at h1
  exact ⟨h1.calm ((Fr.refl _ _).drew), ((h.2.setCell (p := ⟨gv, j, none⟩) (Or.inl (Or.inr rfl)) _).alloc _).drew⟩

set_option maxHeartbeats 1000000 in
theorem sync_no (h : RD X base w yb gv N L left off taken) (hl : off = true ∨ left = 0) :
    Calls Try.prog 19 #[.pointer (some ⟨yb, 0, none⟩)] w fun e w' => e = .returned (.int .i64 10) ∧ RD X base w' yb gv N L left true taken ∧ Fr (Own2 yb gv) w w' := by
  have HT := Lib.hid (take_no h hl)
  clear h hl
  go_enter Try.func19, Try.ntmps19
  go_wp2_with fail
  refine HT.out.mono ?_
  rintro e w1 ⟨rfl, hR, hF⟩
  have H0 := Lib.hid (⟨hR, hF.mono (fun i _ e => Or.inl e)⟩ : RD X base w1 yb gv N L left true taken ∧ Fr (Own2 yb gv) w w1)
  clear hR hF
  go_wp2_with fail
  go_ret
  exact ⟨rfl, H0.out.1, H0.out.2⟩

set_option maxRecDepth 100000 in
set_option maxHeartbeats 1000000 in
theorem sync_yes (h : RD X base w yb gv N L left false taken) (hN : N ≤ 4096) (hL : ∀ j, j < N → (L j).length ≤ 1000000) (hl : left ≠ 0) (hl0 : -1 ≤ left) (hl1 : left ≤ 9223372036854775807) (ht0 : 0 ≤ taken) (ht1 : taken ≤ 1000000000) :
    Calls Try.prog 19 #[.pointer (some ⟨yb, 0, none⟩)] w fun e w' => e = .returned (.int .i64 0) ∧ RD X base w' yb gv N (fun j => [lastOf (L j)]) (less left) false (taken + 1) ∧ Fr (Own2 yb gv) w w' := by
  have HT := Lib.hid (take_yes h hl hl0 hl1 ht0 ht1)
  have HLL := Lib.hid hL
  clear h hL hl hl0 hl1 ht0 ht1
  go_enter Try.func19, Try.ntmps19
  go_wp2_with fail
  refine HT.out.mono ?_
  rintro e w1 ⟨rfl, hR, hF⟩
  have H0 := Lib.hid (show RD X base w1 yb gv N (syncL L 0) (less left) false (taken + 1) ∧ Fr (Own2 yb gv) w w1 from ⟨hR.congr (fun j _ => (by unfold syncL; rw [if_neg (by omega)])), hF.mono (fun i _ e => Or.inl e)⟩)
  clear hR hF
  go_wp2_with fail
  go_loopw [3, 4] (fun i _ wr => ∃ j : Nat, j ≤ N ∧ i = .int .i64 j ∧ Hid (RD X base wr yb gv N (syncL L j) (less left) false (taken + 1) ∧ Fr (Own2 yb gv) w wr)) (fun i _ _ => N - (intOf i).toNat)
  case atStart => exact ⟨0, Nat.zero_le _, rfl, H0⟩
  case round =>
    obtain ⟨j, hj, rfl, HR⟩ := hrel
    clear H0
    obtain ⟨capv, c0⟩ := HR.out.1.c0
    by_cases hlt : j < N
    · obtain ⟨b, c, n, g, c', h1, h2, h3, h4⟩ := HR.out.1.last hlt
      have hn : n ≤ 1000000 := by have := HLL.out j hlt; rw [syncL_at] at h1; omega
      have hj0 : (0 : Int) ≤ (j : Int) := by omega
      have hj1 : (j : Int) < N := by omega
      have hyb := HR.out.1.tyY.lt
      have hgv := HR.out.1.tyG.lt
      have hfg := HR.out.1.freeG j
      have HB := Lib.hid h4
      have hbb := block_lt_of_cell h3
      clear h1 h4
      have HP := Lib.hid (settled (c := c') (L' := syncL L (j + 1)) HR.out HB.out (by rw [syncL_at]; exact syncL_put L j))
      go_wp2_with fail
      go_region
      all_goals
        go_wp2
        go_roundw
        case rel => exact ⟨j + 1, by omega, by go_num, HP⟩
        case measure => simp [intOf]; omega
    · obtain rfl : j = N := by omega
      go_wp2_with fail
      go_ret
      exact ⟨rfl, HR.out.1.congr (fun i hi => by unfold syncL; rw [if_pos hi]), HR.out.2⟩
/-! ### Crash -/
def pickL (P : List Int) (q len : Nat) : Nat := match P[q]? with
  | some x => (amongZ x (len : Int)).toNat
  | none => 0
theorem pickL_in (P : List Int) (q : Nat) {len : Nat} (h : 1 ≤ len) (h2 : len ≤ 1000000) : pickL P q len < len := by
  unfold pickL
  cases hq : P[q]? with
  | none => simp only; omega
  | some x =>
    have := amongZ_in (n := x) (m := (len : Int)) (by omega) (by omega)
    simp only
    omega
def crashed (L : Nat → List (List UInt8)) (P : List Int) (i : Nat) : List (List UInt8) := if 1 < (L i).length then [(L i).getD (pickL P (pend L i) (L i).length) []] else L i
def crL (L : Nat → List (List UInt8)) (P : List Int) (j : Nat) : Nat → List (List UInt8) := fun i => if i < j then crashed L P i else L i
theorem crL_at (L : Nat → List (List UInt8)) (P : List Int) (j : Nat) : crL L P j j = L j := by unfold crL; rw [if_neg (by omega)]
theorem crL_put (L : Nat → List (List UInt8)) (P : List Int) (j : Nat) (h : 1 < (L j).length) : updL (crL L P j) j [(L j).getD (pickL P (pend L j) (L j).length) []] = crL L P (j + 1) := by
  funext i
  unfold updL crL
  by_cases hi : i = j
  · subst hi; rw [if_pos rfl, if_pos (by omega)]; unfold crashed; rw [if_pos h]
  · rw [if_neg hi]
    by_cases h2 : i < j
    · rw [if_pos h2, if_pos (by omega)]
    · rw [if_neg h2, if_neg (by omega)]
theorem crL_same (L : Nat → List (List UInt8)) (P : List Int) (j : Nat) (h : ¬ 1 < (L j).length) (i : Nat) : crL L P j i = crL L P (j + 1) i := by
  unfold crL
  by_cases hi : i = j
  · subst hi; rw [if_neg (by omega), if_pos (by omega)]; unfold crashed; rw [if_neg h]
  · by_cases h2 : i < j
    · rw [if_pos h2, if_pos (by omega)]
    · rw [if_neg h2, if_neg (by omega)]
theorem wrap_u64_small (q : Nat) (h : q ≤ 1000000) : IntKind.u64.wrap (q : Int) = q := by
  unfold IntKind.wrap
  simp only
  have hs : IntKind.u64.signed = false := rfl
  rw [hs]
  show (q : Int) % 18446744073709551616 = q
  omega

theorem RD.nth (h : RD X base w yb gv N L left off taken) {j k : Nat} (hj : j < N) (hk : k < (L j).length) : ∃ b c g c', w.cell? ⟨gv, j, none⟩ = some (.slice (some ⟨b, 0, none⟩) (L j).length c) ∧ w.cell? ⟨b, k, none⟩ = some (.slice (some ⟨g, 0, none⟩) 256 c') ∧ Byt X w g ((L j).getD k []) := by
  obtain ⟨b, c, h1, h2⟩ := h.at_ hj
  have h0 : (L j)[k]? = some ((L j).getD k []) := by rw [List.getD_eq_getElem?_getD, List.getElem?_eq_getElem hk, Option.getD_some]
  obtain ⟨g, c', h3, h4⟩ := h2.at_ h0
  exact ⟨b, c, g, c', h1, h3, h4⟩

set_option maxRecDepth 100000 in
set_option maxHeartbeats 2000000 in
theorem crash_any (h : RD X base w yb gv N L left off taken) (hN : N ≤ 4096) (hL : ∀ j, j < N → (L j).length ≤ 1000000) (A : Option Addr) (cap np B : Nat) (P : List Int) (hr : RdI w B A P) (hnp : P.length = np) (hB : B ≤ base) (hnl : np ≤ 140737488351232) :
    Calls Try.prog 27 #[.pointer (some ⟨yb, 0, none⟩), .slice A np cap] w fun e w' => e = .returned (.tuple #[]) ∧ RD X base w' yb gv N (fun i => crashed L P i) (-1) false taken ∧ Fr (Own2 yb gv) w w' := by
  have HLL := Lib.hid hL
  have HNP := Lib.hid hnp
  have hBw : B ≤ w.heap.size := Nat.le_trans hB (Nat.le_trans h.gv_ge (Nat.le_of_lt h.tyG.lt))
  have HRI := Lib.hid (fun (wr : World) (hF : Fr (Own2 yb gv) w wr) => hr.kept hF hBw (fun i hi e => by have := h.yb_ge; have := h.gv_ge; rcases e with e | e <;> omega))
  have H0 := Lib.hid (show RD X base w yb gv N (crL L P 0) left off taken ∧ Fr (Own2 yb gv) w w from ⟨h.congr (fun j _ => (by unfold crL; rw [if_neg (by omega)])), Fr.refl _ _⟩)
  clear h hL hr hnp hB hBw
  go_enter Try.func27, Try.ntmps27
  go_wp2_with fail
  go_loopw [4, 5, 6, 7] (fun q i _ _ wr => ∃ j : Nat, j ≤ N ∧ i = .int .i64 j ∧ q = .int .i64 ((pend L j : Nat) : Int) ∧ Hid (RD X base wr yb gv N (crL L P j) left off taken ∧ Fr (Own2 yb gv) w wr)) (fun _ i _ _ _ => N - (intOf i).toNat)
  case atStart => exact ⟨0, Nat.zero_le _, rfl, rfl, H0⟩
  case round =>
    obtain ⟨j, hj, rfl, rfl, HR⟩ := hrel
    clear H0
    obtain ⟨capv, c0⟩ := HR.out.1.c0
    by_cases hlt : j < N
    · have hll := HLL.out j hlt
      have hpl := pend_le L j
      have hj0 : (0 : Int) ≤ (j : Int) := by omega
      have hj1 : (j : Int) < N := by omega
      have hyb := HR.out.1.tyY.lt
      have hgv := HR.out.1.tyG.lt
      have hfg := HR.out.1.freeG j
      by_cases hp : 1 < (L j).length
      · have hpk := pickL_in P (pend L j) (len := (L j).length) (by omega) hll
        obtain ⟨b, c, g, c', h2, h3, h4⟩ := HR.out.1.nth (j := j) (k := pickL P (pend L j) (L j).length) hlt (by rw [crL_at]; exact hpk)
        rw [crL_at] at h2 h4
        have HB := Lib.hid h4
        have hbb := block_lt_of_cell h3
        have HP := Lib.hid (settled (c := c') (L' := crL L P (j + 1)) HR.out HB.out (crL_put L P j hp))
        have HPE := Lib.hid (show pend L (j + 1) = pend L j + 1 by rw [pend, if_pos hp])
        have hw := wrap_u64_small (L j).length hll
        obtain ⟨K, hK⟩ : ∃ K, K = pickL P (pend L j) (L j).length := ⟨_, rfl⟩
        have HK := Lib.hid hK
        rw [← hK] at h3 hpk
        generalize pend L j = q at HK HPE hpl hK ⊢
        generalize (L j).length = n at h2 hp hpk hw hll HK hK
        have hK0 : (0 : Int) ≤ (K : Int) := by omega
        have hK1 : (K : Int) < n := by omega
        have hp2 : ((n : Int) < 2) = False := by simp; omega
        clear h4 hK
        by_cases hq : q < np
        · have hqP : q < P.length := by rw [HNP.out]; exact hq
          obtain ⟨pb, po, rfl, _, hc, hb1, hb2⟩ := (HRI.out wr HR.out.2).at_ hqP
          have hx : (wrap64 ((IntKind.u64.wrap P[q]).tmod n)) = (K : Int) := by
            have h1 := HK.out
            unfold pickL at h1
            rw [List.getElem?_eq_getElem hqP] at h1
            have h5 := amongZ_in (n := P[q]) (m := (n : Int)) (by omega) (by omega)
            show amongZ _ _ = _
            simp only at h1
            omega
          generalize P[q] = x at hc hb1 hb2 hx
          clear hp2 hqP
          go_wp2_with fail
          go_region
          all_goals
            go_wp2
            go_roundw
            case rel => exact ⟨j + 1, by omega, by go_num, by rw [HPE.out]; go_num, HP⟩
            case measure => simp [intOf]; omega
        · obtain rfl : K = 0 := by
            have h1 := HK.out
            unfold pickL at h1
            rw [List.getElem?_eq_none (show P.length ≤ q by rw [HNP.out]; omega)] at h1
            exact h1
          have hq2 : np ≤ q := by omega
          clear hp2 hq
          go_wp2_with fail
          go_region
          all_goals
            go_wp2
            go_roundw
            case rel => exact ⟨j + 1, by omega, by go_num, by rw [HPE.out]; go_num, HP⟩
            case measure => simp [intOf]; omega
      · have HPE := Lib.hid (show pend L (j + 1) = pend L j by rw [pend, if_neg hp, Nat.add_zero])
        obtain ⟨b, c, h2, _⟩ := HR.out.1.at_ hlt
        rw [crL_at] at h2
        have HP := Lib.hid (show RD X base wr yb gv N (crL L P (j + 1)) left off taken ∧ Fr (Own2 yb gv) w wr from ⟨HR.out.1.congr (fun i _ => crL_same L P j hp i), HR.out.2⟩)
        have hp2 : (L j).length ≤ 1 := by omega
        generalize (L j).length = n at h2 hp2
        generalize pend L j = q at HPE hpl ⊢
        clear hp hll
        go_wp2_with fail
        go_roundw
        case rel => exact ⟨j + 1, by omega, by go_num, by rw [HPE.out], HP⟩
        case measure => simp [intOf]; omega
    · obtain rfl : j = N := by omega
      have f1 := HR.out.1.free 1
      have f2 := HR.out.1.free 2
      have c1 := HR.out.1.c1
      have c2 := HR.out.1.c2
      have HE := Lib.hid (show RD X base ((wr.setCell ⟨yb, 2, none⟩ (.bool false)).setCell ⟨yb, 1, none⟩ (.int .i64 (-1))) yb gv j (fun i => crashed L P i) (-1) false taken ∧ Fr (Own2 yb gv) w ((wr.setCell ⟨yb, 2, none⟩ (.bool false)).setCell ⟨yb, 1, none⟩ (.int .i64 (-1))) from
        ⟨((HR.out.1.set2 false).set1 (-1)).congr (fun i hi => by unfold crL; rw [if_pos hi]), (HR.out.2.setCell (p := ⟨yb, 2, none⟩) (Or.inl (Or.inl rfl)) _).setCell (p := ⟨yb, 1, none⟩) (Or.inl (Or.inl rfl)) _⟩)
      go_wp2_with fail
      go_end0
      exact ⟨rfl, HE.out.1, HE.out.2⟩
end
end Go.Proofs.Ytbmbibepcnpngaa.rf
