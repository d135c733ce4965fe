/-
  The program's tell: words that hold for the next member.
-/
import Derived.Test.YtgimiggffpokpaaGreatDoorTeD
namespace Go.Proofs.YtgimiggffpokpaaGreatDoor.ta
set_option maxRecDepth 100000
open Go.RowKit Go.Maps Go.Deep
open Go.Proofs.YtgimiggffpokpaaGreatDoor.pt (Tx tx tx_toL tx_size toL toL_len ss ss_append ss_length OwnS RdS)
open Go.Proofs.YtgimiggffpokpaaGreatDoor.he (Bts)
set_option maxRecDepth 100000

/-- The program's reader as cells. -/
abbrev rdC (x0 x1 x2 x3 : Value) : Obj := .cells #[x0, x1, x2, x3] 41
theorem rd_cells {w : World} {R : Nat} {x0 x1 x2 x3 : Value} (h : w.heap[R]? = some (rdC x0 x1 x2 x3)) : w.cell? ⟨R, 0, none⟩ = some x0 ∧ w.cell? ⟨R, 1, none⟩ = some x1 ∧ w.cell? ⟨R, 2, none⟩ = some x2 ∧ w.cell? ⟨R, 3, none⟩ = some x3 ∧ w.frozen? ⟨R, 0, none⟩ = false ∧ w.frozen? ⟨R, 1, none⟩ = false ∧ w.frozen? ⟨R, 2, none⟩ = false ∧ w.frozen? ⟨R, 3, none⟩ = false :=
  ⟨(cellAt h 0).trans rfl, (cellAt h 1).trans rfl, (cellAt h 2).trans rfl, (cellAt h 3).trans rfl, freeAt h 0, freeAt h 1, freeAt h 2, freeAt h 3⟩
theorem rd_set {w : World} {R : Nat} {cs : Array Value} {t : TypeId} (h : w.heap[R]? = some (.cells cs t (0, 0))) (k : Nat) (v : Value) : (w.setCell ⟨R, k, none⟩ v).heap[R]? = some (.cells (cs.setIfInBounds k v) t (0, 0)) := by
  rw [heap_setCell_same _ _ _ _ _ _ h]
theorem rd_set0 {w : World} {R : Nat} {x0 x1 x2 x3 : Value} (h : w.heap[R]? = some (rdC x0 x1 x2 x3)) (v : Value) : (w.setCell ⟨R, 0, none⟩ v).heap[R]? = some (rdC v x1 x2 x3) := rd_set h 0 v
theorem rd_set1 {w : World} {R : Nat} {x0 x1 x2 x3 : Value} (h : w.heap[R]? = some (rdC x0 x1 x2 x3)) (v : Value) : (w.setCell ⟨R, 1, none⟩ v).heap[R]? = some (rdC x0 v x2 x3) := rd_set h 1 v
theorem rd_set2 {w : World} {R : Nat} {x0 x1 x2 x3 : Value} (h : w.heap[R]? = some (rdC x0 x1 x2 x3)) (v : Value) : (w.setCell ⟨R, 2, none⟩ v).heap[R]? = some (rdC x0 x1 v x3) := rd_set h 2 v
theorem rd_set3 {w : World} {R : Nat} {x0 x1 x2 x3 : Value} (h : w.heap[R]? = some (rdC x0 x1 x2 x3)) (v : Value) : (w.setCell ⟨R, 3, none⟩ v).heap[R]? = some (rdC x0 x1 x2 v) := rd_set h 3 v
theorem keep_blk {w w' : World} {g : Nat} {o : Obj} (h : w.heap[g]? = some o) (hF : Fr (fun _ => False) w w') : w'.heap[g]? = some o := (hF.block g (Array.getElem?_eq_some_iff.1 h).1 id).trans h
/-- A row of the call's own is no other kind's block. -/
theorem own_ne {w : World} {base n size : Nat} {t t' : TypeId} {v : Value} {xs : List Value} {g : Nat} {cs : Array Value} (ht : t ≠ t') (h : w.ownsRow base t size v n xs) (hg : w.heap[g]? = some (.cells cs t' (0, 0))) (q : Nat) (hq : v.ownBlock = some q) : q ≠ g := by
  rintro rfl
  rcases h.2 with ⟨rfl, _⟩ | ⟨g2, c, cur, rfl, _, hh, _⟩
  · cases hq
  · cases hq
    rw [hg] at hh
    cases hh
    exact ht rfl
theorem own_set {w : World} {base n size : Nat} {t t' : TypeId} {v : Value} {xs : List Value} {g : Nat} {cs : Array Value} (ht : t ≠ t') (h : w.ownsRow base t size v n xs) (hg : w.heap[g]? = some (.cells cs t' (0, 0))) (k : Nat) (x : Value) : (w.setCell ⟨g, k, none⟩ x).ownsRow base t size v n xs := by
  have hne := own_ne ht h hg
  obtain ⟨h1, h2⟩ := h
  refine ⟨h1, ?_⟩
  rcases h2 with h2 | ⟨q, cap, cur, rfl, hb, hh, r⟩
  · exact Or.inl h2
  · exact Or.inr ⟨q, cap, cur, rfl, hb, (Below.heap_setCell _ _ _ _ (hne q rfl)).trans hh, r⟩
theorem tSR : (9 : TypeId) ≠ 41 := by decide
theorem tER : (30 : TypeId) ≠ 41 := by decide
/-- What tell answers and leaves. -/
def TlA (w : World) (R : Nat) (x2 x3 : Value) (b : Bts) (e : Ending) (w' : World) : Prop :=
  ((recsV b = none ∨ ∃ L, recsV b = some L ∧ moreV L = none) ∧ e = .returned (.int .i64 150) ∧ Fr (fun _ => False) w w') ∨
  (∃ (L : List Tx) (x : Nx) (A : Option Addr) (c : Nat), recsV b = some L ∧ moreV L = some x ∧ e = .returned (.int .i64 0) ∧ Fr (fun i => i = R) w w' ∧ w'.heap[R]? = some (rdC (.slice A L.length c) (.bool true) x2 x3) ∧ OwnS w' w.heap.size (.slice A L.length c) L)
/-- The first i words: no size among them that is none. -/
def NoBad (L : List Tx) (i : Nat) : Prop := ∀ j k v, j < i → j % 2 = 0 → L[j]? = some k → L[j + 1]? = some v → k = kSize → sizeB v = true
theorem NoBad.zero (L : List Tx) : NoBad L 0 := fun j _ _ h => absurd h (Nat.not_lt_zero j)
theorem NoBad.next {L : List Tx} {i : Nat} (h : NoBad L i) (h2 : i % 2 = 0) {k v : Tx} (hk : L[i]? = some k) (hv : L[i + 1]? = some v) (hs : k = kSize → sizeB v = true) : NoBad L (i + 2) := fun j k' v' hj hj2 hk' hv' he => by
  by_cases hlt : j < i
  · exact h j k' v' hlt hj2 hk' hv' he
  · obtain rfl : j = i := by omega
    rw [hk] at hk'
    rw [hv] at hv'
    cases hk'
    cases hv'
    exact hs he
theorem NoBad.done {L : List Tx} {i : Nat} (h : NoBad L i) (hi : L.length ≤ i) : ∃ x, moreV L = some x := by
  cases hm : moreV L with
  | some x => exact ⟨x, rfl⟩
  | none =>
    obtain ⟨j, k, v, h1, h2, h3, h4, h5⟩ := (moreF_drop L _).1 hm
    have := h j k v (by have := (List.getElem?_eq_some_iff.1 h1).1; omega) h3 h1 h2 h4
    rw [h5] at this
    cases this
theorem bad_more {L : List Tx} {i : Nat} (h2 : i % 2 = 0) {k v : Tx} (hk : L[i]? = some k) (hv : L[i + 1]? = some v) (h4 : k = kSize) (h5 : sizeB v = false) : moreV L = none := (moreF_drop L _).2 ⟨i, k, v, hk, hv, h2, h4, h5⟩
set_option maxHeartbeats 16000000 in
theorem ptell (w : World) (R : Nat) (x0 x1 x2 x3 : Value) (hb : w.heap[R]? = some (rdC x0 x1 x2 x3)) (A : Option Addr) (cap : Nat) (b : Bts) (hr : Rd w w.heap.size A b) (hc : b.length ≤ cap) (hl : b.length ≤ 1048576) :
    Calls Tryz.prog 34 #[.pointer (some ⟨R, 0, none⟩), .slice A b.length cap] w (TlA w R x2 x3 b) := by
  have HC := Lib.hid (precords w A cap b hr hc hl)
  have HB := Lib.hid hb
  have HBL := Lib.hid hl
  obtain ⟨n0, hn0⟩ : ∃ n, n = b.length := ⟨_, rfl⟩
  rw [← hn0] at HC ⊢
  clear hr hc hl hb hn0
  go_enter Tryz.func34, Tryz.ntmps34
  go_wp2_with fail
  refine HC.out.mono ?_
  intro e w1 hP
  obtain ⟨hP, hF1⟩ := hP
  rcases hP with ⟨hrc, rfl⟩ | ⟨L, A1, c1, hrc, rfl, hO⟩
  · have HEND := Lib.hid (show TlA w R x2 x3 b (.returned (.int .i64 150)) w1 from Or.inl ⟨Or.inl hrc, rfl, hF1⟩)
    clear hrc hF1 HC
    go_wp2_with fail
    go_ret
    exact HEND.out
  · obtain ⟨hev, hLb⟩ := recs_even hrc
    have hpar := even_len hev
    obtain ⟨n, hn⟩ : ∃ n, n = L.length := ⟨_, rfl⟩
    have HX := Lib.hid (⟨hrc, hF1, hO, hpar, hn, by have := HBL.out; omega⟩ : recsV b = some L ∧ Fr (fun _ => False) w w1 ∧ OwnS w1 w.heap.size (.slice A1 L.length c1) L ∧ L.length % 2 = 0 ∧ n = L.length ∧ L.length ≤ 1048576)
    rw [← hn]
    clear hrc hF1 hO hpar hev hLb hn HC
    go_wp2_with fail
    go_loopw [7, 8, 9] (fun v7 _ _ wr => ∃ i : Nat, i ≤ n ∧ v7 = .int .i64 (i : Int) ∧ Hid (i % 2 = 0 ∧ NoBad L i ∧ Fr (fun _ => False) w1 wr)) (fun v _ _ _ => n - (intOf v).toNat)
    case atStart => exact ⟨0, Nat.zero_le _, rfl, (show Hid _ from Lib.hid ⟨rfl, NoBad.zero L, Fr.refl _ w1⟩)⟩
    case round =>
      obtain ⟨i, hi, rfl, HK⟩ := hrel
      obtain ⟨hrc, hF1, hO, hpar, hn, hL⟩ := HX.out
      obtain ⟨hi2, hNB, hFr⟩ := HK.out
      by_cases hlt : i < n
      · obtain ⟨i1, hi1⟩ : ∃ i1, i1 = i + 1 := ⟨_, rfl⟩
        have hlt1 : i1 < n := by omega
        obtain ⟨k, hk⟩ : ∃ k, L[i]? = some k := ⟨_, List.getElem?_eq_getElem (by omega)⟩
        obtain ⟨v, hv⟩ : ∃ v, L[i1]? = some v := ⟨_, List.getElem?_eq_getElem (by omega)⟩
        have hrd := (OwnS.rd hO).still hFr (Nat.le_refl _)
        obtain ⟨gb, go, rfl, hgb, hck⟩ := hrd.at_ hk
        obtain ⟨_, _, e2, _, hcv⟩ := hrd.at_ hv
        cases e2
        have hvl : v.length ≤ 140737488355328 := by have := recs_len hrc v (List.mem_of_getElem? hv); have := HBL.out; omega
        have HS := Lib.hid (psizeOf wr (tx v) (by rw [tx_size]; unfold maxLen; omega))
        rw [tx_toL] at HS
        have hi1w : IntKind.i64.wrap ((i : Int) + 1) = (i1 : Int) := by rw [IntWalk.i64_in _ (by omega)]; omega
        have hi2w : IntKind.i64.wrap ((i : Int) + 2) = ((i + 2 : Nat) : Int) := by rw [IntWalk.i64_in _ (by omega)]; omega
        have k1 : (0 : Int) ≤ (i1 : Int) := by omega
        have k2 : (i1 : Int) < (n : Int) := by omega
        have k3 : (0 : Int) ≤ (i : Int) := by omega
        have k4 : (i : Int) < (n : Int) := by omega
        have HZ := Lib.hid (show sizR v = .tuple #[.int .i64 (((Go.Proofs.YtgimiggffpokpaaGreatDoor.vr.wholeV v 9).getD 0 : Nat) : Int), .bool (sizeB v)] from rfl)
        obtain ⟨Z, hZ⟩ : ∃ Z, Z = (((Go.Proofs.YtgimiggffpokpaaGreatDoor.vr.wholeV v 9).getD 0 : Nat) : Int) := ⟨_, rfl⟩
        rw [HZ.out, ← hZ] at HS
        obtain ⟨T, hT⟩ : ∃ T, T = tx k := ⟨_, rfl⟩
        obtain ⟨U, hU⟩ : ∃ U, U = tx v := ⟨_, rfl⟩
        have hTk : T.toList = k := by rw [hT, tx_toL]
        rw [← hT] at hck
        rw [← hU] at hcv HS
        have hv' : L[i + 1]? = some v := by rw [← hi1]; exact hv
        have HW := Lib.hid (⟨hi2, hNB, hFr, hk, hv', hi1, Nat.lt_of_lt_of_le hgb hFr.size⟩ : _ ∧ _ ∧ _ ∧ _ ∧ _ ∧ _ ∧ _)
        clear hrc hF1 hO hpar hn hL hi2 hNB hFr hk hv hv' hrd hvl HZ hZ hT hU HK hi1 hgb
        by_cases hks : k = kSize
        · obtain rfl : T = ⟨#[115, 105, 122, 101]⟩ := by rw [← pt.tx_of T, hTk, hks]; rfl
          cases hsb : sizeB v with
          | false =>
            have HEND := Lib.hid (fun wx (hFx : Fr (fun _ => False) wr wx) => (show TlA w R x2 x3 b (.returned (.int .i64 150)) wx from Or.inl ⟨Or.inr ⟨L, HX.out.1, bad_more HW.out.1 HW.out.2.2.2.1 HW.out.2.2.2.2.1 hks hsb⟩, rfl, (HX.out.2.1.trans HW.out.2.2.1 (fun _ _ e => e)).trans hFx (fun _ _ e => e)⟩))
            rw [hsb] at HS
            clear hsb hks hTk
            go_wp2_with fail
            refine HS.out.mono ?_
            rintro e w2 ⟨rfl, hF2⟩
            have hck2 := (World.cell?_of_block (w := wr) (w' := w2) (a := ⟨gb, go + i, none⟩) (hF2.block gb HW.out.2.2.2.2.2.2 id)).trans hck
            have HF2 := Lib.hid hF2
            clear hF2
            go_wp2_with fail
            go_ret
            exact HEND.out _ HF2.out
          | true =>
            have HN := Lib.hid (HW.out.2.1.next HW.out.1 HW.out.2.2.2.1 HW.out.2.2.2.2.1 (fun _ => hsb))
            rw [hsb] at HS
            clear hsb hks hTk
            go_wp2_with fail
            refine HS.out.mono ?_
            rintro e w2 ⟨rfl, hF2⟩
            have hck2 := (World.cell?_of_block (w := wr) (w' := w2) (a := ⟨gb, go + i, none⟩) (hF2.block gb HW.out.2.2.2.2.2.2 id)).trans hck
            have HF2 := Lib.hid hF2
            clear hF2
            go_wp2_with fail
            go_roundw
            case rel => exact ⟨i + 2, by have := HW.out.2.2.2.2.2.1; omega, by go_num, (show Hid _ from Lib.hid ⟨by have := HW.out.1; omega, HN.out, HW.out.2.2.1.trans HF2.out (fun _ _ e => e)⟩)⟩
            case measure => simp [intOf]; omega
        · have hq : (T.toList == [115, 105, 122, 101]) = false := beq_eq_false_iff_ne.2 (by rw [hTk]; exact hks)
          have HN := Lib.hid (HW.out.2.1.next HW.out.1 HW.out.2.2.2.1 HW.out.2.2.2.2.1 (fun e => absurd e hks))
          obtain ⟨sb, hsb⟩ : ∃ sb, sb = sizeB v := ⟨_, rfl⟩
          rw [← hsb] at HS
          clear hsb hks hTk
          go_wp2_with fail
          refine HS.out.mono ?_
          rintro e w2 ⟨rfl, hF2⟩
          have hck2 := (World.cell?_of_block (w := wr) (w' := w2) (a := ⟨gb, go + i, none⟩) (hF2.block gb HW.out.2.2.2.2.2.2 id)).trans hck
          have HF2 := Lib.hid hF2
          clear hF2
          go_wp2_with fail
          go_roundw
          case rel => exact ⟨i + 2, by have := HW.out.2.2.2.2.2.1; omega, by go_num, (show Hid _ from Lib.hid ⟨by have := HW.out.1; omega, HN.out, HW.out.2.2.1.trans HF2.out (fun _ _ e => e)⟩)⟩
          case measure => simp [intOf]; omega
      · have hin : i = n := by omega
        obtain ⟨x, hx⟩ := hNB.done (by omega)
        have hF := hF1.trans hFr (fun _ _ e => e)
        have hbl := keep_blk HB.out hF
        obtain ⟨a0, a1, a2, a3, f0, f1, f2, f3⟩ := rd_cells hbl
        have hs0 := rd_set0 hbl (.slice A1 n c1)
        have hs1 := rd_set1 hs0 (.bool true)
        obtain ⟨_, b1, _, _, _, g1, _, _⟩ := rd_cells hs0
        have hOr : wr.ownsRow w.heap.size 9 1 (.slice A1 L.length c1) L.length (ss L) := OwnS.still hO hFr
        have hO0 := own_set tSR hOr hbl 0 (.slice A1 n c1)
        have hO1 := own_set tSR hO0 hs0 1 (.bool true)
        have hFF : Fr (fun i => i = R) w ((wr.setCell ⟨R, 0, none⟩ (.slice A1 n c1)).setCell ⟨R, 1, none⟩ (.bool true)) := ((hF.mono (S := fun i => i = R) (fun _ _ e => e.elim)).setCell (p := ⟨R, 0, none⟩) (Or.inl rfl) _).setCell (p := ⟨R, 1, none⟩) (Or.inl rfl) _
        have HEND := Lib.hid (show TlA w R x2 x3 b (.returned (.int .i64 0)) ((wr.setCell ⟨R, 0, none⟩ (.slice A1 n c1)).setCell ⟨R, 1, none⟩ (.bool true)) from Or.inr ⟨L, x, A1, c1, hrc, hx, rfl, hFF, by rw [← hn]; exact hs1, hO1⟩)
        clear hrc hF1 hO hpar hn hL hi2 hNB hFr hx hF hbl hs0 hs1 hOr hO0 hO1 hFF HK
        go_wp2_with fail
        go_ret
        exact HEND.out
end Go.Proofs.YtgimiggffpokpaaGreatDoor.ta
