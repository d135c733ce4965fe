/-
  The document's disk: Load.
-/
import Derived.Test.YtbmbibepcnpngaaRfN
namespace Go.Proofs.Ytbmbibepcnpngaa.rf
open Go.RowKit Go.Maps

/-- Sector j of an image. -/
def sect (l : List UInt8) (j : Nat) : List UInt8 := (l.drop (256 * j)).take 256
theorem sect_length {l : List UInt8} {j N : Nat} (hl : l.length = 256 * N) (hj : j < N) : (sect l j).length = 256 := by
  unfold sect
  rw [List.length_take, List.length_drop, hl]
  omega
set_option maxRecDepth 100000 in
/-- image[256 * j : 256 * j + 256]. -/
theorem cut_mid (w : World) (B : Nat) (A : Option Addr) (l : List UInt8) (n c j N : Nat) (hr : Rd w B A l) (hn : l.length = n) (hc : n ≤ c) (hN : n = 256 * N) (hj : j < N) :
    ∃ A' c', (∀ w : World, (Instr.slice 22 (.slice A n c) (some (.int .i64 ((j : Int) * 256))) (some (.int .i64 (((j : Int) + 1) * 256))) none).run Try.prog w = .ok (.slice A' 256 c') w) ∧ Rd w B A' (sect l j) ∧ A' ≠ none := by
  have hne : l ≠ [] := by intro e; subst e; simp at hn; omega
  obtain ⟨blk, off, rfl, hb, hcell⟩ := hr hne
  refine ⟨some ⟨blk, off + 256 * j, none⟩, c - 256 * j, fun w => ?_, ?_, by simp⟩
  · rw [run_slice_lh w 22 (some ⟨blk, off, none⟩) n c Try.underlying22 .i64 .i64 ((j : Int) * 256) (((j : Int) + 1) * 256) (by omega) (by omega) (by omega)]
    have hs : (sizeOf (Try.prog.elem 22)).run Try.prog w = .ok 1 w := by kernel_rfl
    rw [hs]
    have e1 : ((j : Int) * 256).toNat = 256 * j := by omega
    have e2 : (((j : Int) + 1) * 256).toNat = 256 * j + 256 := by omega
    simp only [Result.andThen, sliced, e1, e2, Nat.mul_one]
    rw [if_neg (by omega), show 256 * j + 256 - 256 * j = 256 by omega]
    simp [add_plain]
  · exact fun _ => ⟨blk, off + 256 * j, rfl, hb, fun k x hk => by
      unfold sect at hk
      rw [List.getElem?_take] at hk
      split at hk
      · rw [List.getElem?_drop] at hk
        rw [Nat.add_assoc]
        exact hcell _ x hk
      · cases hk⟩

set_option maxHeartbeats 400000 in
theorem load_odd (w : World) (A : Option Addr) (n cap : Nat) (hn : n % 256 ≠ 0) (hl : n ≤ 140737488351232) :
    Calls Try.prog 13 #[.slice A n cap] w fun e w' => e = .returned (.tuple #[.pointer none, .int .i64 2]) ∧ w = w' := by
  have hne : ((n : Int) % 256 != 0) = true := by rw [bne_iff_ne]; omega
  clear hn
  go_enter Try.func13, Try.ntmps13
  go_wp2_with fail
  go_ret2
  exact ⟨rfl, rfl⟩
set_option maxHeartbeats 400000 in
theorem load_no (w : World) (A : Option Addr) (n cap N : Nat) (hn : n = 256 * N) (hN : N < 1 ∨ 4096 < N) (hl : n ≤ 140737488351232) :
    Calls Try.prog 13 #[.slice A n cap] w fun e w' => e = .returned (.tuple #[.pointer none, .int .i64 2]) ∧ w = w' := by
  have hne : ((n : Int) % 256 != 0) = false := by rw [bne_eq_false_iff_eq]; omega
  have hq : (n : Int) / 256 = (N : Int) := by omega
  have HN := Lib.hid (new_no w (N : Int) (by omega))
  clear hn hN
  go_enter Try.func13, Try.ntmps13
  go_wp2_with fail
  refine HN.out.mono ?_
  rintro e w' ⟨rfl, rfl⟩
  go_wp2_with fail
  go_ret2
  exact ⟨rfl, rfl⟩

def loadL (l : List UInt8) (j : Nat) : Nat → List (List UInt8) := fun i => if i < j then [sect l i] else [nought]
theorem loadL_put (l : List UInt8) (j : Nat) : updL (loadL l j) j [sect l j] = loadL l (j + 1) := by
  funext i
  unfold updL loadL
  by_cases h : i = j
  · subst h; rw [if_pos rfl, if_pos (by omega)]
  · rw [if_neg h]
    by_cases h2 : i < j
    · rw [if_pos h2, if_pos (by omega)]
    · rw [if_neg h2, if_neg (by omega)]
/-- The document's disk, of an image. -/
def LoadR (w : World) (N : Nat) (l : List UInt8) (e : Ending) (w' : World) : Prop := ∃ yb gv, e = .returned (.tuple #[.pointer (some ⟨yb, 0, none⟩), .int .i64 0]) ∧ RD (fun _ => False) w.heap.size w' yb gv N (fun j => [sect l j]) (-1) false 0 ∧ Fr (fun _ => False) w w'
theorem sect_settled {base : Nat} {w wr w5 : World} {yb gv N : Nat} {L L' : Nat → List (List UInt8)} {left : Int} {off : Bool} {taken : Int} (h : RD (fun _ => False) base wr yb gv N L left off taken ∧ Fr (fun _ => False) w wr) (hb0 : w.heap.size ≤ base) (hF : Fr (fun _ => False) wr w5) {j g c : Nat} {x : List UInt8} (hb : Byt (fun _ => False) w5 g x) (hL : updL L j [x] = L') :
    (RD (fun _ => False) base ((w5.setCell ⟨gv, j, none⟩ (.slice (some ⟨w5.heap.size, 0, none⟩) 1 1)).alloc (.cells #[.slice (some ⟨g, 0, none⟩) 256 c] 22)) yb gv N L' left off taken ∧
      Fr (fun _ => False) w ((w5.setCell ⟨gv, j, none⟩ (.slice (some ⟨w5.heap.size, 0, none⟩) 1 1)).alloc (.cells #[.slice (some ⟨g, 0, none⟩) 256 c] 22))) ∧ w5.frozen? ⟨gv, j, none⟩ = false ∧ gv < w5.heap.size := by
  subst hL
  have hR5 := h.1.calm hF
  have h1 := hR5.settle (j := j) (c := c) hb
  have hlt := hR5.tyG.lt
  rw [World.setCell_alloc_past _ _ _ _ hlt] at h1
  exact ⟨⟨h1, ((h.2.trans hF (fun _ _ e => e)).setCell (p := ⟨gv, j, none⟩) (Or.inr (Nat.le_trans hb0 hR5.gv_ge)) _).alloc _⟩, hR5.freeG j, hlt⟩

set_option maxRecDepth 100000 in
set_option maxHeartbeats 2000000 in
theorem load_ok (w : World) (B : Nat) (A : Option Addr) (n cap N : Nat) (l : List UInt8) (hr : Rd w B A l) (hln : l.length = n) (hc : n ≤ cap) (hn : n = 256 * N) (h1 : 1 ≤ N) (h2 : N ≤ 4096) (hB : B ≤ w.heap.size) :
    Calls Try.prog 13 #[.slice A n cap] w (LoadR w N l) := by
  have hne : ((n : Int) % 256 != 0) = false := by rw [bne_eq_false_iff_eq]; omega
  have hq : (n : Int) / 256 = (N : Int) := by omega
  have HN := Lib.hid (new_ok w N h1 h2)
  have HR := Lib.hid hr
  have HLN := Lib.hid hln
  have HSE := Lib.hid (fun j (hj : j < N) => sect_length (l := l) (j := j) (N := N) (by rw [hln, hn]) hj)
  have HCUT := Lib.hid (fun (wr : World) (hF : Fr (fun _ => False) w wr) j (hj : j < N) => cut_mid wr B A l n cap j N (hr.still hF hB) hln hc hn hj)
  have HB := Lib.hid hB
  clear hr hln hc hn hB
  go_enter Try.func13, Try.ntmps13
  go_wp2_with fail
  refine HN.out.mono ?_
  rintro e w1 ⟨yb, gv, rfl, hR, hF⟩
  have H0 := Lib.hid (show RD (fun _ => False) w.heap.size w1 yb gv N (loadL l 0) (-1) false 0 ∧ Fr (fun _ => False) w w1 from ⟨hR.congr (fun j _ => by unfold loadL; rw [if_neg (by omega)]), hF⟩)
  clear hR hF hne hq
  go_wp2_with fail
  go_loopw [6] (fun i wr => ∃ j : Nat, j ≤ N ∧ i = .int .i64 j ∧ Hid (RD (fun _ => False) w.heap.size wr yb gv N (loadL l j) (-1) false 0 ∧ Fr (fun _ => False) w wr)) (fun i _ => N - (intOf i).toNat)
  case atStart => exact ⟨0, Nat.zero_le _, rfl, H0⟩
  case round =>
    obtain ⟨j, hj, rfl, HP⟩ := hrel
    clear H0
    obtain ⟨capv, c0⟩ := HP.out.1.c0
    by_cases hlt : j < N
    · obtain ⟨A', c', hcut, hrd, hA'⟩ := HCUT.out wr HP.out.2 j hlt
      have hyb := HP.out.1.tyY.lt
      have hgv := HP.out.1.tyG.lt
      have hne := HP.out.1.tyG.ne HP.out.1.tyY tyU.2.2.2.2
      have hj0 : (0 : Int) ≤ (j : Int) := by omega
      have hj1 : (j : Int) < N := by omega
      have HRd := Lib.hid hrd
      have HA := Lib.hid hA'
      have HX := Lib.hid (HSE.out j hlt)
      have HSZ := Lib.hid (Nat.le_trans HB.out HP.out.2.size)
      have HK := Lib.hid (fun (w' : World) (hw : Fr (fun _ => False) wr w') => (World.cell?_of_block (w := wr) (w' := w') (a := ⟨yb, 0, none⟩) (hw.block _ hyb id)).trans c0)
      obtain ⟨b0, cb0, hcr, _⟩ := HP.out.1.at_ hlt
      have HK2 := Lib.hid (fun (w' : World) (hw : Fr (fun _ => False) wr w') => (World.cell?_of_block (w := wr) (w' := w') (a := ⟨gv, j, none⟩) (hw.block _ hgv id)).trans hcr)
      clear hcr
      have m1 : IntKind.i64.wrap ((j : Int) * 256) = (j : Int) * 256 := IntWalk.i64_in _ ⟨by omega, by omega⟩
      have m2 : IntKind.i64.wrap ((j : Int) + 1) = (j : Int) + 1 := IntWalk.i64_in _ ⟨by omega, by omega⟩
      have m3 : IntKind.i64.wrap (((j : Int) + 1) * 256) = ((j : Int) + 1) * 256 := IntWalk.i64_in _ ⟨by omega, by omega⟩
      clear hrd hA'
      go_wp2_with fail
      go_region_law
        ((go_simp; go_at_call 40; (refine (sector_any _ _ _ _ _ (sect l j) (HRd.out.still ((Fr.refl _ wr).drew) HSZ.out) HX.out HSZ.out (fun e => absurd e HA.out) (by omega)).mono ?_); rintro e w5 ⟨A5, c5, rfl, ho5, hF5⟩; obtain ⟨g5, rfl, hb5, hby5⟩ := Byt.of_own (X := fun _ => False) ho5 HX.out (fun _ e => e.elim); rw [HX.out]; have HS := Lib.hid (sect_settled (c := c5) (L' := loadL l (j + 1)) HP.out (Nat.le_refl _) (((Fr.refl (fun _ => False) wr).drew).trans hF5 (fun _ _ e => e)) hby5 (loadL_put l j)); have hs5 := HK.out _ (((Fr.refl (fun _ => False) wr).drew).trans hF5 (fun _ _ e => e)); have hc5 := HK2.out _ (((Fr.refl (fun _ => False) wr).drew).trans hF5 (fun _ _ e => e)); have hf5 := HS.out.2.1; have hg5 := HS.out.2.2; have hy5 : yb < w5.heap.size := Nat.lt_of_lt_of_le hyb hF5.size; clear ho5 hF5 hby5 hb5))
      all_goals
        clear m1 m2 m3
        go_wp2
        go_roundw
        case rel => exact ⟨j + 1, by omega, by go_num, (show _ ∧ _ from HS.out.1)⟩
        case measure => simp [intOf]; omega
    · obtain rfl : j = N := by omega
      have HE := Lib.hid (HP.out.1.congr (fun i hi => show loadL l j i = [sect l i] by unfold loadL; rw [if_pos hi]))
      go_wp2_with fail
      go_ret2
      exact ⟨yb, gv, rfl, HE.out, HP.out.2⟩
end Go.Proofs.Ytbmbibepcnpngaa.rf
