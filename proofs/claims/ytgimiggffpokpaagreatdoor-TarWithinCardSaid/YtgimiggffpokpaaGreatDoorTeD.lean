/-
  The program's Records.
-/
import Derived.Test.YtgimiggffpokpaaGreatDoorTeC
import Derived.Maps.AppendAt
namespace Go.Proofs.YtgimiggffpokpaaGreatDoor.ta
set_option maxRecDepth 100000
open Go.RowKit Go.Maps Go.Deep
open Go.Proofs.YtgimiggffpokpaaGreatDoor.pt (Tx tx tx_toL tx_size toL toL_len ss ss_append ss_length OwnS infoS zeroS own_geS)
open Go.Proofs.YtgimiggffpokpaaGreatDoor.he (Bts)
set_option maxRecDepth 100000

/-- How many elements a slice has. -/
def slLen : Value → Nat
  | .slice _ n _ => n
  | _ => 0
/-- What Records answers. -/
def RcA (w : World) (b : Bts) (e : Ending) (w' : World) : Prop :=
  ((recsV b = none ∧ e = .returned (.tuple #[.slice none 0 0, .int .i64 150])) ∨
    (∃ (L : List Tx) (A : Option Addr) (c : Nat), recsV b = some L ∧ e = .returned (.tuple #[.slice A L.length c, .int .i64 0]) ∧ OwnS w' w.heap.size (.slice A L.length c) L)) ∧ Fr (fun _ => False) w w'
theorem twoS (w : World) {g : Nat} {x y : ByteArray} (h : w.heap[g]? = some (.cells #[.string x, .string y] 9 (0, 0))) : ∀ j u, [Value.string x, Value.string y][j]? = some u → w.cell? ((⟨g, 0, none⟩ : Addr).add j) = some u := fun j u hu => by
  rw [add_plain, cellAt h, Nat.zero_add, ← Array.getElem?_toList]
  exact hu
theorem two1 (x y : ByteArray) : ∀ u ∈ [Value.string x, Value.string y], u.oneCell' = true := by
  intro u hu
  simp only [List.mem_cons, List.not_mem_nil, or_false] at hu
  rcases hu with rfl | rfl <;> rfl
/-- What an append of a key and a value leaves. -/
theorem snoc2 {w0 w w' : World} {p : Option Addr} {m c : Nat} {L : List Tx} {x y : Tx} {v : Value} (hm : m = L.length) (ho : w.ownsRow w0.heap.size 9 1 (.slice p m c) m (ss L)) (hF : Fr (fun _ => False) w0 w)
    (hown : w'.ownsRow w0.heap.size 9 1 v (m + 2) (ss L ++ [.string (tx x), .string (tx y)])) (hg : w.grownBy w' (Value.slice p m c).ownBlock) : ∃ p' c', v = .slice p' (m + 2) c' ∧ m + 2 = (L ++ [x, y]).length ∧ w'.ownsRow w0.heap.size 9 1 (.slice p' (m + 2) c') (m + 2) (ss (L ++ [x, y])) ∧ Fr (fun _ => False) w0 w' := by
  have hl : m + 2 = (L ++ [x, y]).length := by rw [List.length_append, ← hm]; rfl
  obtain ⟨p', c', e, h⟩ := OwnS.shape (l := L ++ [x, y]) hl (by rw [ss_append]; rfl) hown
  rw [← hl] at e h
  unfold OwnS at h
  rw [← hl] at h
  exact ⟨p', c', e, hl, h, hF.grown hg (fun q e => own_geS ho e)⟩
/-- What is read of a block that was there stays, in whatever world behind. -/
theorem rd_via {w w2 w3 : World} {A : Option Addr} {l : Bts} (h : Rd w2 w.heap.size A l) (h2 : Fr (fun _ => False) w w2) (h3 : Fr (fun _ => False) w w3) : Rd w3 w.heap.size A l := fun hne => by
  obtain ⟨blk, off, e, hb, hc⟩ := h hne
  refine ⟨blk, off, e, hb, fun j x hj => ?_⟩
  have k2 := World.cell?_of_block (w := w) (w' := w2) (a := ⟨blk, off + j, none⟩) (h2.block blk hb id)
  have k3 := World.cell?_of_block (w := w) (w' := w3) (a := ⟨blk, off + j, none⟩) (h3.block blk hb id)
  exact (k3.trans k2.symm).trans (hc j x hj)
set_option maxHeartbeats 16000000 in
theorem precords (w : World) (A : Option Addr) (cap : Nat) (b : Bts) (hr : Rd w w.heap.size A b) (hc : b.length ≤ cap) (hb : b.length ≤ 1048576) :
    Calls Tryz.prog 35 #[.slice A b.length cap] w (RcA w b) := by
  obtain ⟨i0, hi, hz0, hz1, hz2⟩ := info_parts infoS
  have HI := Lib.hid (⟨hi, hz0, hz1, hz2⟩ : _ ∧ _ ∧ _ ∧ _)
  have HBL := Lib.hid hb
  have H0 : Hid (RecI b 0 [] ∧ Rd w w.heap.size A b ∧ b.length ≤ cap) := Lib.hid ⟨RecI.zero b, hr, hc⟩
  obtain ⟨n0, hn0⟩ : ∃ n, n = b.length := ⟨_, rfl⟩
  have HN0 := Lib.hid hn0
  rw [← hn0]
  clear hi hz0 hz1 hz2 hr hc hb hn0
  go_enter Tryz.func35, Tryz.ntmps35
  go_wp2_with fail
  go_loopw [0, 4, 5, 6, 7, 8, 9] (fun v0 v4 _ _ _ _ _ wr => ∃ (A' : Option Addr) (n c : Nat) (p : Option Addr) (m cp : Nat), v0 = .slice A' n c ∧ v4 = .slice p m cp ∧ Hid (∃ (i : Nat) (L : List Tx), i + n = b.length ∧ RecI b i L ∧ m = L.length ∧ Rd wr w.heap.size A' (b.drop i) ∧ m ≤ 2 * i ∧ n ≤ c ∧ wr.ownsRow w.heap.size 9 1 (.slice p m cp) m (ss L) ∧ Fr (fun _ => False) w wr)) (fun v _ _ _ _ _ _ _ => slLen v)
  case atStart => exact ⟨A, n0, cap, none, 0, 0, rfl, rfl, (show Hid _ from Lib.hid ⟨0, [], by rw [HN0.out, Nat.zero_add], H0.out.1, rfl, by rw [List.drop_zero]; exact H0.out.2.1, Nat.zero_le _, by rw [HN0.out]; exact H0.out.2.2, World.ownsRow_nil w w.heap.size 9 1, Fr.refl _ w⟩)⟩
  case round =>
    obtain ⟨A', n, c, p, m, cp, rfl, rfl, HK⟩ := hrel
    obtain ⟨i, L, hi, hI, hm, hR, hm2, hnc, hO, hF⟩ := HK.out
    clear H0 HK
    by_cases hn : n = 0
    · subst hn
      have HEND := Lib.hid (show RcA w b (.returned (.tuple #[.slice p m cp, .int .i64 0])) wr from ⟨Or.inr ⟨L, p, cp, by
        have : i = b.length := by omega
        rw [this] at hI
        exact hI.done, by rw [hm], by rw [← hm]; unfold OwnS; rw [← hm]; exact hO⟩, hF⟩)
      clear hi hI hm hR hm2 hnc hO hF
      go_wp2_with fail
      go_ret2
      exact HEND.out
    · have hin : i < b.length := by omega
      have hd : (b.drop i).length = n := by rw [List.length_drop]; omega
      have hdne : b.drop i ≠ [] := by intro e; rw [e] at hd; simp at hd; omega
      obtain ⟨blk, off, hA, hlt, hcell⟩ := hR hdne
      subst hA
      have hbl := HBL.out
      have HC := Lib.hid (pcutRecord wr blk off w.heap.size c (b.drop i) hR hF.size hdne (by omega) (by omega))
      rw [hd] at HC
      have k0 : (0 : Int) < (n : Int) := by omega
      have HB := Lib.hid (⟨hi, hI, hm, hR, hm2, hnc, hO, hF⟩ : _ ∧ _ ∧ _ ∧ _ ∧ _ ∧ _ ∧ _ ∧ _)
      have HDL := Lib.hid (⟨hd, hin⟩ : _ ∧ _)
      clear hi hI hm hR hm2 hnc hO hF hd hdne hlt hcell hbl hin
      go_wp2_with fail
      refine HC.out.mono ?_
      intro e w1 hP
      obtain ⟨hP, hF1⟩ := hP
      rcases hP with ⟨hcu, rfl⟩ | ⟨f, s, A2, hcu, hR2, hA2, rfl⟩
      · have HEND := Lib.hid (show RcA w b (.returned (.tuple #[.slice none 0 0, .int .i64 150])) w1 from ⟨Or.inl ⟨HB.out.2.1.bad HDL.out.2 (by rw [recR_cut, hcu]), rfl⟩, HB.out.2.2.2.2.2.2.2.trans hF1 (fun _ _ e => e)⟩)
        clear hcu hF1 HC HB
        go_wp2_with fail
        go_ret2
        exact HEND.out
      · obtain ⟨hb1, hb2, hb3⟩ := cutR_bound hcu
        rw [HDL.out.1] at hb2
        have hF1w := HB.out.2.2.2.2.2.2.2.trans hF1 (fun _ _ e => e)
        obtain ⟨S, hS⟩ : ∃ S, S = ((b.drop i).take (s - 1)).drop f := ⟨_, rfl⟩
        obtain ⟨bn, hbn⟩ : ∃ bn, bn = s - 1 - f := ⟨_, rfl⟩
        obtain ⟨bc, hbc⟩ : ∃ bc, bc = c - f := ⟨_, rfl⟩
        obtain ⟨bo, hbo⟩ : ∃ bo, bo = off + f := ⟨_, rfl⟩
        have hnc := HB.out.2.2.2.2.2.1
        have hSl : bn = S.length := by rw [hS, List.length_drop, List.length_take, HDL.out.1]; omega
        have hRS : Rd wr w.heap.size (some ⟨blk, bo, none⟩) S := by
          have h := ((HB.out.2.2.2.1).take (s - 1)).drop (k := f) (cap := c) (by rw [List.length_take, HDL.out.1]; omega)
          rw [if_neg (by omega)] at h
          rw [hS, hbo, ← add_plain]
          exact h
        obtain ⟨n2, hn2⟩ : ∃ n2, n2 = n - s := ⟨_, rfl⟩
        obtain ⟨c2, hc2⟩ : ∃ c2, c2 = c - s := ⟨_, rfl⟩
        rw [← hbn, ← hbc, ← hbo, HDL.out.1, ← hn2, ← hc2]
        have hFa : Fr (fun _ => False) wr (w1.alloc (.cells #[.int .u8 61] 5 (1, 2))) := hF1.alloc _
        have HU := Lib.hid (pcut (w1.alloc (.cells #[.int .u8 61] 5 (1, 2))) blk bo w.heap.size bn bc w1.heap.size S 61 61 rfl (hRS.still hFa (HB.out.2.2.2.2.2.2.2.size)) hSl (by omega) (by have := HBL.out; have := HDL.out.2; have := HB.out.1; omega) (by rw [World.cell?_alloc_mark]; rfl))
        have kc : (convert 22 22 (.slice (some ⟨w1.heap.size, 0, none⟩) 1 1)).run Tryz.prog (w1.alloc (.cells #[.int .u8 61] 5)) = .ok (.slice (some ⟨w1.heap.size, 0, none⟩) 1 1) (w1.alloc (.cells #[.int .u8 61] 5 (1, 2))) := Lib.run_convert_bytes_const (P := Tryz.prog) w1 22 5 #[.int .u8 61] 1 1 Tryz.underlying22 Tryz.underlying5
        have HX := Lib.hid (⟨hcu, hb1, hb2, hb3, hS, hbn, hSl, hRS, hn2, hc2, hR2, hFa, hF1w⟩ : _ ∧ _ ∧ _ ∧ _ ∧ _ ∧ _ ∧ _ ∧ _ ∧ _ ∧ _ ∧ _ ∧ _ ∧ _)
        clear hcu hb1 hb2 hb3 hS hbn hbc hbo hSl hRS hn2 hc2 hR2 hFa hF1w hF1 HC hnc hA2
        go_wp2_with fail
        refine HU.out.mono ?_
        intro e w2 hP
        obtain ⟨hP, hC2⟩ := hP
        obtain ⟨hcu, hb1, hb2, hb3, hS, hbn, hSl, hRS, hn2, hc2, hR2, hFa, hF1w⟩ := HX.out
        have hF2 := (hF1w.alloc (.cells #[.int .u8 61] 5 (1, 2))).trans hC2.fr (fun _ _ e => e)
        rcases hP with ⟨h61, _, rfl⟩ | ⟨j, A3, h61, hj, htw, hR3, hA3, rfl⟩
        · have HEND := Lib.hid (show RcA w b (.returned (.tuple #[.slice none 0 0, .int .i64 150])) w2 from ⟨Or.inl ⟨HB.out.2.1.bad HDL.out.2 (by rw [recR_cut, hcu]; dsimp only; rw [← hS, if_pos h61]), rfl⟩, hF2⟩)
          clear hcu hb1 hb2 hb3 hS hbn hSl hRS hn2 hc2 hR2 hFa hF1w hF2 h61 hC2 HU HX HB kc
          go_wp2_with fail
          go_ret2
          exact HEND.out
        · have hF2r := hFa.trans hC2.fr (fun _ _ e => e)
          have hsz := HB.out.2.2.2.2.2.2.2.size
          have hcv1 := tconv (hRS.still hF2r hsz) bc j (by omega)
          obtain ⟨a3, rfl⟩ : ∃ a3, A3 = some a3 := by
            cases A3 with
            | none => exact (hA3 rfl).elim
            | some a3 => exact ⟨a3, rfl⟩
          have hcv2 := tconv (hR3.calm hC2) (bc - (j + 1)) (S.length - (j + 1)) (by rw [List.length_drop]; omega)
          rw [List.take_of_length_le (by rw [List.length_drop]; exact Nat.le_refl _)] at hcv2
          rw [← htw] at hcv1
          have hrec : recR (b.drop i) = some (s, keyR S, S.drop (j + 1)) := by
            rw [recR_cut, hcu]
            dsimp only
            rw [← hS, if_neg (fun e => e h61)]
            have : (keyR S).length = j := by unfold keyR; rw [htw, List.length_take]; omega
            rw [this]
          have hN := HB.out.2.1.next hrec
          obtain ⟨K, hK⟩ : ∃ K, K = keyR S := ⟨_, rfl⟩
          obtain ⟨V, hV⟩ : ∃ V, V = S.drop (j + 1) := ⟨_, rfl⟩
          rw [← hK, ← hV] at hN
          have hKK : S.takeWhile (fun x => decide (x ≠ 61)) = K := by rw [hK]; rfl
          rw [hKK] at hcv1
          rw [← hV] at hcv2
          have hb1s := HB.out.2.2.2.2.1
          have hnc := HB.out.2.2.2.2.2.1
          have hO2 : w2.ownsRow w.heap.size 9 1 (.slice p m cp) m (ss L) := by
            have h := HB.out.2.2.2.2.2.2.1
            rw [HB.out.2.2.1] at h ⊢
            exact OwnS.still h hF2r
          have hbl := HBL.out
          have hiin := HB.out.1
          have HON := Lib.hid (⟨hN, HB.out.2.2.1, hO2, hF2, by omega, by omega⟩ : RecI b (i + s) (L ++ [K, V]) ∧ m = L.length ∧ w2.ownsRow w.heap.size 9 1 (.slice p m cp) m (ss L) ∧ Fr (fun _ => False) w w2 ∧ m + 2 ≤ 2 * (i + s) ∧ m ≤ 2097152)
          have HRR := Lib.hid (⟨by omega, by rw [← List.drop_drop]; exact hR2.still hF2r hsz, by omega⟩ : i + s + n2 = b.length ∧ Rd w2 w.heap.size A2 (b.drop (i + s)) ∧ n2 ≤ c2)
          have hn2n : n2 < n := by omega
          obtain ⟨q1, hq1⟩ : ∃ q, q = S.length - (j + 1) := ⟨_, rfl⟩
          obtain ⟨q2, hq2⟩ : ∃ q, q = bc - (j + 1) := ⟨_, rfl⟩
          rw [← hq1, ← hq2] at hcv2
          rw [← hq1, ← hq2]
          clear hcu hb1 hb2 hb3 hS hbn hSl hRS hn2 hc2 hR2 hFa hF1w hF2 h61 hC2 HU HX HB kc hF2r hsz hrec hN hK hV hKK hb1s hnc hO2 hbl hiin hj htw hR3 hA3 hq1 hq2
          go_wp2_with (at_builtin; refine wpList_append_own_at _ rfl (.tmp 31) (.tmp 36) 37 rfl w.heap.size 9 i0 zeroS 1 16 Tryz.underlying37 HI.out.1 HI.out.2.1 HI.out.2.2.1 HI.out.2.2.2 rfl (by omega) _ m (ss L) rfl (World.ownsRow.alloc HON.out.2.2.1 _) ⟨w2.heap.size, 0, none⟩ 2 2 [.string (tx K), .string (tx V)] rfl rfl (twoS _ (heap_alloc_new _ _)) (two1 _ _) (by have := HON.out.2.2.2.2.2; unfold maxLen; omega) (by have := HON.out.2.2.2.2.2; omega) (Nat.le_trans HON.out.2.2.2.1.size (by simp)) ?_; intro v2 w3 hown hg _ _; obtain ⟨p2, cp2, hv, hm2, ho2, hF3⟩ := snoc2 HON.out.2.1 (World.ownsRow.alloc HON.out.2.2.1 _) (HON.out.2.2.2.1.alloc _) hown hg; subst hv; have HM2 := Lib.hid (⟨hm2, ho2, hF3⟩ : _ ∧ _ ∧ _); clear hown hg hm2 ho2 hF3)
          go_roundw
          case rel => exact ⟨A2, n2, c2, p2, m + 2, cp2, rfl, rfl, (show Hid _ from Lib.hid ⟨i + s, L ++ [K, V], HRR.out.1, HON.out.1, HM2.out.1, rd_via HRR.out.2.1 HON.out.2.2.2.1 HM2.out.2.2, HON.out.2.2.2.2.1, HRR.out.2.2, HM2.out.2.1, HM2.out.2.2⟩)⟩
          case measure => simp [slLen]; omega
end Go.Proofs.YtgimiggffpokpaaGreatDoor.ta
