/-
  Texts that belong together, joined: CpD CpE CpF.
-/
import Derived.Test.YtcdhakfmljjaoaaGreatDoorJE
import Derived.Lib.Walk
import Derived.Shelf.Abstract
import Derived.Deep.MidRow
import Derived.Deep.DeepCutAuto

/-
  slices.IndexFunc and ContainsFunc at numbers; New that refuses.
-/



namespace Go.Proofs.YtcdhakfmljjaoaaGreatDoor.cd
set_option maxRecDepth 100000
open Go.RowKit Go.Maps Go.Proofs.YtcdhakfmljjaoaaGreatDoor.fl
set_option maxRecDepth 100000

/-- Where the first number stands that a function takes. -/
def NoPI (l : List Int) (p : Int → Bool) (k : Nat) : Prop := ∀ j x, j < k → l[j]? = some x → p x = false
theorem NoPI.next {l : List Int} {p : Int → Bool} {k : Nat} {x : Int} (h : NoPI l p k) (hx : l[k]? = some x) (hn : p x = false) : NoPI l p (k + 1) := fun j z hj hz => by
  by_cases e : j = k
  · subst e
    rw [hx] at hz
    cases hz
    exact hn
  · exact h j z (by omega) hz
set_option maxHeartbeats 2000000 in
theorem index_wrong (w : World) (A : Option Addr) (cap : Nat) (l : List Int) (q : Bool) (hq0 : q = l.any isW') (hr : RdI w w.heap.size A l) (hb : l.length ≤ 140737488351232) :
    Calls Tryz.prog 138 #[.slice A l.length cap, .func (.func 125) #[] #[]] w fun e w' => (∃ z : Int, e = .returned (.int .i64 z) ∧ (0 ≤ z ↔ q = true) ∧ -1 ≤ z ∧ z < 140737488351232) ∧ w = w' := by
  obtain ⟨n, hn⟩ : ∃ n, n = l.length := ⟨_, rfl⟩
  rw [← hn] at hb ⊢
  have HR := Lib.hid hr
  have HN := Lib.hid hn
  have HQ := Lib.hid hq0
  clear hr hn hq0
  go_enter Tryz.func138, Tryz.ntmps138
  go_wp2_with fail
  go_loop [5, 8] (fun _ i => ∃ k : Nat, k ≤ n ∧ i = .int .i64 k ∧ Hid (NoPI l isW' k)) (fun _ i => n - (intOf i).toNat)
  case atStart => exact ⟨0, Nat.zero_le _, rfl, (show ∀ _, _ from fun j x h => by omega)⟩
  case round =>
    obtain ⟨k, hk, rfl, HC⟩ := hrel
    by_cases hlt : k < n
    · obtain ⟨x, hx⟩ : ∃ x, l[k]? = some x := ⟨_, List.getElem?_eq_getElem (by have := HN.out; omega)⟩
      obtain ⟨b, o, rfl, hbl, hcell⟩ := HR.out.1 (by rintro rfl; simp at hx)
      have p0 := hcell k x hx
      have HW := Lib.hid (pisWrong w x)
      cases hq : isW' x with
      | true =>
        rw [hq] at HW
        have HE := Lib.hid (show q = true by rw [HQ.out]; exact List.any_eq_true.2 ⟨x, List.mem_of_getElem? hx, hq⟩)
        clear hx hq hbl hcell
        go_wp2_with (first | (go_at_call 125; refine HW.out.mono ?_; rintro e w' ⟨rfl, rfl⟩) | (go_at_fn 125; refine HW.out.mono ?_; rintro e w' ⟨rfl, rfl⟩))
        go_ret
        exact ⟨⟨k, rfl, ⟨fun _ => HE.out, fun _ => by omega⟩, by omega, by omega⟩, rfl⟩
      | false =>
        rw [hq] at HW
        have HE := Lib.hid (HC.out.next hx hq)
        clear hx hq hbl hcell
        go_wp2_with (first | (go_at_call 125; refine HW.out.mono ?_; rintro e w' ⟨rfl, rfl⟩) | (go_at_fn 125; refine HW.out.mono ?_; rintro e w' ⟨rfl, rfl⟩))
        go_round
        case rel => exact ⟨k + 1, by omega, by go_num, HE⟩
        case measure => simp [intOf]; omega
    · obtain rfl : k = n := by omega
      have HE := Lib.hid (show q = false by
        rw [HQ.out, Bool.eq_false_iff]
        intro h
        obtain ⟨x, hx, hp⟩ := List.any_eq_true.1 h
        obtain ⟨j, hj⟩ := List.mem_iff_getElem?.1 hx
        rw [HC.out j x (by rw [HN.out]; exact (List.getElem?_eq_some_iff.1 hj).1) hj] at hp
        cases hp)
      go_wp2_with fail
      go_ret
      exact ⟨⟨-1, rfl, ⟨fun h => by omega, fun h => by rw [HE.out] at h; cases h⟩, by omega, by omega⟩, rfl⟩
set_option maxHeartbeats 1000000 in
theorem contains_wrong (w : World) (A : Option Addr) (cap : Nat) (l : List Int) (q : Bool) (hq0 : q = l.any isW') (hr : RdI w w.heap.size A l) (hb : l.length ≤ 140737488351232) :
    Calls Tryz.prog 124 #[.slice A l.length cap, .func (.func 125) #[] #[]] w fun e w' => e = .returned (.bool q) ∧ w = w' := by
  have HI := Lib.hid (index_wrong w A cap l q hq0 hr hb)
  obtain ⟨n, hn⟩ : ∃ n, n = l.length := ⟨_, rfl⟩
  rw [← hn] at HI ⊢
  clear hr hn hb hq0
  go_enter Tryz.func124, Tryz.ntmps124
  go_wp2_with (go_at_call 138; refine HI.out.mono ?_; rintro e w' ⟨⟨z, rfl, hz, _, _⟩, rfl⟩; have HZ := Lib.hid (show decide (0 ≤ z) = q from (by cases q with
      | true => exact decide_eq_true (hz.2 rfl)
      | false => exact decide_eq_false (fun h => by cases hz.1 h))); clear hz)
  go_ret
  exact ⟨by rw [← HZ.out]; rfl, rfl⟩
theorem any_wrong (l : List Int) : l.any isW' = !inB l := by
  unfold inB
  induction l with
  | nil => rfl
  | cons x l ih =>
    rw [List.any_cons, List.all_cons, ih, Bool.not_and]
    congr 1
    unfold isW' isC
    by_cases h0 : x = 0
    · subst h0; rfl
    · have : (x != 0) = true := bne_iff_ne.2 h0
      rw [this, Bool.true_and]
      by_cases h1 : 1 ≤ x
      · rw [decide_eq_true h1, decide_eq_true (by omega : 0 ≤ x)]
      · rw [decide_eq_false h1, decide_eq_false (by omega : ¬ 0 ≤ x)]
set_option maxHeartbeats 2000000 in
theorem pnew_no (w : World) (A : Option Addr) (cap : Nat) (l : List Int) (hr : RdI w w.heap.size A l) (hb : l.length ≤ 140737488351232) (h : okB l = false) :
    Calls Tryz.prog 104 #[.slice A l.length cap] w fun e w' => e = .returned (.tuple #[.pointer none, .int .i64 100]) ∧ Fr (fun _ => False) w w' := by
  have HC := Lib.hid (contains_wrong w A cap l _ rfl hr hb)
  rw [any_wrong] at HC
  have HN := Lib.hid (pcount w A cap l hr hb)
  have HM := Lib.hid (fun wx => pmayBe wx l hb)
  have HL := Lib.hid (cntL_length l)
  have HK := Lib.hid (cntL_cells l)
  by_cases h1 : l.length ≤ 288
  · cases h2 : inB l with
    | false =>
      rw [h2] at HC
      obtain ⟨n, hn⟩ : ∃ n, n = l.length := ⟨_, rfl⟩
      rw [← hn] at HC h1 ⊢
      clear hn HN HM hr h h2 hb
      go_enter Tryz.func104, Tryz.ntmps104
      go_wp2_with (go_at_call 124; refine HC.out.mono ?_; rintro e w' ⟨rfl, rfl⟩)
      go_ret2
      exact ⟨rfl, Fr.refl _ _⟩
    | true =>
      rw [h2] at HC
      have hm : mayI l = false := by rw [may_ok h1 h2]; exact h
      rw [hm] at HM
      obtain ⟨n, hn⟩ : ∃ n, n = l.length := ⟨_, rfl⟩
      rw [← hn] at HC HN h1 ⊢
      clear hn hr h h2 hb hm
      go_enter Tryz.func104, Tryz.ntmps104
      go_wp2_with (first
        | (go_at_call 124; refine HC.out.mono ?_; rintro e w' ⟨rfl, rfl⟩)
        | (go_at_call 126; refine HN.out.mono ?_; rintro e w1 ⟨rfl, hF1⟩; have HF1 := Lib.hid hF1; have HA1 := Lib.hid (heap_alloc_new w1 (.cells (is no16).toArray 153)); clear hF1)
        | ((with_reducible refine wpList_allocCn ?_ ?_ ?_); (exact rfl); (exact rfl))
        | ((with_reducible refine wpList_storeA infoCn ?_ (.tmp 4) (.tmp 17) ?_ w1.heap.size (is (cntL l)) (is no16) HK.out no16_cells (is_one _) ?_ ?_ HA1.out ?_); (exact rfl); (exact rfl); (exact rfl); (exact rfl); intro w3 h3 hF3 hs3; have H3 := Lib.hid h3; have HF3 := Lib.hid ((HF1.out.alloc _).trans (hF3.mono (S := fun i => w1.heap.size ≤ i) (fun i _ e => by omega)) (S := fun _ => False) (fun i hi e => absurd hi (by have := HF1.out.size; omega))); clear h3 hF3 hs3)
        | ((with_reducible refine wpList_loadCn ?_ (.tmp 4) ?_ w1.heap.size (cntL l) HL.out ?_ H3.out ?_); (exact rfl); (exact rfl); (exact rfl))
        | (go_at_call 127; refine (HM.out _).mono ?_; rintro e w4 ⟨rfl, hF4⟩; have HF4 := Lib.hid (HF3.out.trans hF4 (fun _ _ e => e)); clear hF4))
      go_ret2
      exact ⟨rfl, HF4.out⟩
  · obtain ⟨n, hn⟩ : ∃ n, n = l.length := ⟨_, rfl⟩
    rw [← hn] at h1 hb ⊢
    clear hn HC HN HM hr h
    have h2 : (288 : Int) < n := by omega
    go_enter Tryz.func104, Tryz.ntmps104
    go_wp2_with fail
    go_ret2
    exact ⟨rfl, Fr.refl _ _⟩
end Go.Proofs.YtcdhakfmljjaoaaGreatDoor.cd

/-
  The program's codes in memory; what New lays down, step by step.
-/


namespace Go.Proofs.YtcdhakfmljjaoaaGreatDoor.cd
set_option maxRecDepth 100000
open Go.RowKit Go.Maps Go.Proofs.YtcdhakfmljjaoaaGreatDoor.fl
set_option maxRecDepth 100000

/-- A code's cells. -/
def codC (z : Int) (c : List Int) (a b : Value) : List Value := .int .i64 z :: (is c ++ [a, b])
theorem codC_0 (z : Int) (c : List Int) (a b : Value) : (codC z c a b)[0]? = some (.int .i64 z) := rfl
theorem codC_n {z : Int} {c : List Int} {a b : Value} {n : Nat} {x : Int} (h : c[n]? = some x) : (codC z c a b)[1 + n]? = some (.int .i64 x) := by
  have hlt := (List.getElem?_eq_some_iff.1 h).1
  show (Value.int .i64 z :: (is c ++ [a, b]))[1 + n]? = _
  rw [Nat.add_comm, List.getElem?_cons_succ, List.getElem?_append_left (by rw [is_length]; exact hlt), is_get, h]
  rfl
theorem codC_17 {z : Int} {c : List Int} {a b : Value} (h : c.length = 16) : (codC z c a b)[17]? = some a := by
  show (Value.int .i64 z :: (is c ++ [a, b]))[16 + 1]? = _
  rw [List.getElem?_cons_succ, List.getElem?_append_right (by rw [is_length]; omega), is_length, h]
  rfl
theorem codC_18 {z : Int} {c : List Int} {a b : Value} (h : c.length = 16) : (codC z c a b)[18]? = some b := by
  show (Value.int .i64 z :: (is c ++ [a, b]))[17 + 1]? = _
  rw [List.getElem?_cons_succ, List.getElem?_append_right (by rw [is_length]; omega), is_length, h]
  rfl
theorem codC_length (z : Int) (c : List Int) (a b : Value) : (codC z c a b).length = 3 + c.length := by
  unfold codC
  rw [List.length_cons, List.length_append, is_length]
  simp
  omega
abbrev codB (l : List Int) (a b : Value) : Obj := .cells (codC (mostW (wordsL l) : Nat) (cntL l) a b).toArray 157 (0, 0)
abbrev slA (g n : Nat) : Value := .slice (some ⟨g, 0, none⟩) n n
/-- The program's code of these lengths: its block, its words', its symbols'. -/
structure CodM (w : World) (g gw gs : Nat) (l sy : List Int) (S : Nat → Prop) : Prop where
  blk : w.heap[g]? = some (codB l (slA gw l.length) (slA gs (codesN l)))
  wds : w.heap[gw]? = some (.cells (lvs (wdL l l.length)).toArray 163 (0, 0))
  sym : w.heap[gs]? = some (.cells (is sy).toArray 3 (0, 0))
  srt : Sorted l sy l.length
  ok : okB l = true
  own : S g ∧ S gw ∧ S gs
  low : ∀ i, S i → i < w.heap.size
def PC : CP := fun w a l S => ∃ g gw gs sy, a = ⟨g, 0, none⟩ ∧ CodM w g gw gs l sy S
section
variable {w w' : World} {g gw gs : Nat} {l sy : List Int} {S S' : Nat → Prop}
theorem CodM.keep (h : CodM w g gw gs l sy S) (hF : Fr S' w w') (hS : ∀ i, S i → ¬ S' i) : CodM w' g gw gs l sy S :=
  ⟨(hF.block g (h.low _ h.own.1) (hS _ h.own.1)).trans h.blk, (hF.block gw (h.low _ h.own.2.1) (hS _ h.own.2.1)).trans h.wds, (hF.block gs (h.low _ h.own.2.2) (hS _ h.own.2.2)).trans h.sym, h.srt, h.ok, h.own, fun i hi => Nat.lt_of_lt_of_le (h.low i hi) hF.size⟩
theorem CodM.still (h : CodM w g gw gs l sy S) (hF : Fr (fun _ => False) w w') : CodM w' g gw gs l sy S := h.keep hF (fun _ _ e => e)
theorem CodM.reach (h : CodM w g gw gs l sy S) : w.cell? ⟨g, 0, none⟩ = some (.int .i64 (mostW (wordsL l) : Nat)) := by rw [cellAt h.blk, List.getElem?_toArray]; rfl
theorem CodM.count (h : CodM w g gw gs l sy S) {n : Nat} (hn : n < 16) : w.cell? ⟨g, 1 + n, none⟩ = some (.int .i64 (cn l n : Int)) := by rw [cellAt h.blk, List.getElem?_toArray]; exact codC_n (cntL_get l hn)
theorem CodM.words (h : CodM w g gw gs l sy S) : w.cell? ⟨g, 17, none⟩ = some (slA gw l.length) := by rw [cellAt h.blk, List.getElem?_toArray]; exact codC_17 (cntL_length l)
theorem CodM.syms (h : CodM w g gw gs l sy S) : w.cell? ⟨g, 18, none⟩ = some (slA gs (codesN l)) := by rw [cellAt h.blk, List.getElem?_toArray]; exact codC_18 (cntL_length l)
theorem CodM.word_at (h : CodM w g gw gs l sy S) {i : Nat} (hi : i < l.length) : w.cell? ⟨gw, i * 2, none⟩ = some (.int .i64 (wdI l i).1) ∧ w.cell? ⟨gw, i * 2 + 1, none⟩ = some (.int .i64 (wdI l i).2) := by
  have h2 := lvs_get (wdL l l.length) i _ (wdL_get hi)
  rw [if_pos hi] at h2
  rw [cellAt h.wds, cellAt h.wds, List.getElem?_toArray, List.getElem?_toArray, Nat.mul_comm]
  exact h2
theorem CodM.sym_at (h : CodM w g gw gs l sy S) {i n : Nat} (hi : Has l i n) : w.cell? ⟨gs, plN l i, none⟩ = some (.int .i64 (i : Int)) := by
  rw [cellAt h.sym, List.getElem?_toArray, is_get, h.srt.2 i n hi hi.at_]
  rfl
end
theorem most_in {l : List Int} (hb : inB l = true) : 1 ≤ mostW (wordsL l) ∧ mostW (wordsL l) ≤ 15 := by
  have : longW (wordsL l) ≤ 15 := long_le (fun w hw => by
    unfold wordsL at hw
    obtain ⟨i, hi, rfl⟩ := List.mem_map.1 hw
    rw [wordB_length]
    exact lenN_le15 hb i)
  unfold mostW
  omega

/-- Where the next code of each length stands, when k symbols have theirs. -/
def atL (l : List Int) (k : Nat) : List (Int × Int) := (List.range 16).map fun n => ((fiN l n : Int) + (cn (l.take k) n : Int), (shN l n : Int) + (cn (l.take k) n : Int))
theorem atL_length (l : List Int) (k : Nat) : (atL l k).length = 16 := by unfold atL; simp
theorem atL_get (l : List Int) (k : Nat) {n : Nat} (h : n < 16) : (atL l k)[n]? = some ((fiN l n : Int) + (cn (l.take k) n : Int), (shN l n : Int) + (cn (l.take k) n : Int)) := by
  unfold atL
  rw [List.getElem?_map, List.getElem?_range h]
  rfl
theorem atL_zero (l : List Int) : lvL l 15 = atL l 0 := by
  apply List.ext_getElem?
  intro i
  by_cases h : i < 16
  · rw [lvL_get l 15 h, atL_get l 0 h, if_pos (by omega), List.take_zero]
    have : cn [] i = 0 := by unfold cn cnt; split <;> simp
    rw [this]
    simp
  · rw [List.getElem?_eq_none (by rw [lvL_length]; omega), List.getElem?_eq_none (by rw [atL_length]; omega)]
theorem cn_take_succ {l : List Int} {k : Nat} {x : Int} (h : l[k]? = some x) (n : Nat) : cn (l.take (k + 1)) n = cn (l.take k) n + if n ≠ 0 ∧ x = n then 1 else 0 := by
  rw [List.take_add_one, h]
  exact cn_snoc _ _ _
theorem atL_skip {l : List Int} {k : Nat} (h : l[k]? = some 0) : atL l (k + 1) = atL l k := by
  apply List.ext_getElem?
  intro i
  by_cases hi : i < 16
  · rw [atL_get l _ hi, atL_get l _ hi, cn_take_succ h, if_neg (by omega), Nat.add_zero]
  · rw [List.getElem?_eq_none (by rw [atL_length]; omega), List.getElem?_eq_none (by rw [atL_length]; omega)]
theorem atL_next {l : List Int} {k n : Nat} (h : Has l k n) (hn : n ≤ 15) : atL l (k + 1) = (atL l k).set n ((fiN l n : Int) + (cn (l.take k) n : Int) + 1, (shN l n : Int) + (cn (l.take k) n : Int) + 1) := by
  apply List.ext_getElem?
  intro i
  by_cases hi : i < 16
  · rw [atL_get l _ hi, cn_take_succ h.1]
    by_cases e : n = i
    · subst e
      rw [List.getElem?_set_self (by rw [atL_length]; omega), if_pos ⟨by have := h.2; omega, rfl⟩]
      congr 2 <;> omega
    · rw [List.getElem?_set_ne e, atL_get l _ hi, if_neg (by omega), Nat.add_zero]
  · rw [List.getElem?_eq_none (by rw [atL_length]; omega), List.getElem?_eq_none (by rw [List.length_set, atL_length]; omega)]
/-- What lies there while the symbols get their words. -/
structure NwG (w : World) (l : List Int) (gc gw gs ga : Nat) (W L : List (Int × Int)) (sy : List Int) (wr : World) : Prop where
  cod : wr.heap[gc]? = some (codB l (slA gw l.length) (slA gs (codesN l)))
  wds : wr.heap[gw]? = some (.cells (lvs W).toArray 163 (0, 0))
  sym : wr.heap[gs]? = some (.cells (is sy).toArray 3 (0, 0))
  at_ : wr.heap[ga]? = some (.cells (lvs L).toArray 160 (0, 0))
  fr : Fr (fun _ => False) w wr
  ge : w.heap.size ≤ gc ∧ w.heap.size ≤ gw ∧ w.heap.size ≤ gs ∧ w.heap.size ≤ ga
  ne : gc ≠ gw ∧ gc ≠ gs ∧ gc ≠ ga ∧ gw ≠ gs ∧ gw ≠ ga ∧ gs ≠ ga
section
variable {w wr w' : World} {l sy : List Int} {gc gw gs ga : Nat} {W L : List (Int × Int)}
theorem NwG.drew (h : NwG w l gc gw gs ga W L sy wr) : NwG w l gc gw gs ga W L sy wr.drew := ⟨h.cod, h.wds, h.sym, h.at_, h.fr.drew, h.ge, h.ne⟩
theorem NwG.slW (h : NwG w l gc gw gs ga W L sy wr) : wr.cell? ⟨gc, 17, none⟩ = some (slA gw l.length) := by rw [cellAt h.cod, List.getElem?_toArray]; exact codC_17 (cntL_length l)
theorem NwG.slS (h : NwG w l gc gw gs ga W L sy wr) : wr.cell? ⟨gc, 18, none⟩ = some (slA gs (codesN l)) := by rw [cellAt h.cod, List.getElem?_toArray]; exact codC_18 (cntL_length l)
theorem NwG.lev (h : NwG w l gc gw gs ga W L sy wr) {n : Nat} {x : Int × Int} (hx : L[n]? = some x) : wr.cell? ⟨ga, n * 2, none⟩ = some (.int .i64 x.1) ∧ wr.cell? ⟨ga, n * 2 + 1, none⟩ = some (.int .i64 x.2) := by
  rw [cellAt h.at_, cellAt h.at_, List.getElem?_toArray, List.getElem?_toArray, Nat.mul_comm]
  exact lvs_get L n x hx
theorem NwG.setW (h : NwG w l gc gw gs ga W L sy wr) {k : Nat} {y : Int × Int} (hy : W[k]? = some y) :
    (wr.cell? ⟨gw, k * 2, none⟩ = some (.int .i64 y.1) ∧ wr.cell? ⟨gw, k * 2 + 1, none⟩ = some (.int .i64 y.2) ∧ wr.frozen? ⟨gw, k * 2, none⟩ = false ∧ wr.frozen? ⟨gw, k * 2 + 1, none⟩ = false) ∧
    ∀ a b : Int, NwG w l gc gw gs ga (W.set k (a, b)) L sy ((wr.setCell ⟨gw, k * 2, none⟩ (.int .i64 a)).setCell ⟨gw, k * 2 + 1, none⟩ (.int .i64 b)) := by
  obtain ⟨n1, n2, n3, n4, n5, n6⟩ := h.ne
  refine ⟨⟨?_, ?_, freeAt h.wds _, freeAt h.wds _⟩, fun a b => ⟨?_, ?_, ?_, ?_, (h.fr.setCell (p := ⟨gw, k * 2, none⟩) (Or.inr h.ge.2.1) _).setCell (p := ⟨gw, k * 2 + 1, none⟩) (Or.inr h.ge.2.1) _, h.ge, h.ne⟩⟩
  · rw [cellAt h.wds, List.getElem?_toArray, Nat.mul_comm]; exact (lvs_get W k y hy).1
  · rw [cellAt h.wds, List.getElem?_toArray, Nat.mul_comm]; exact (lvs_get W k y hy).2
  · rw [Below.heap_setCell _ _ _ _ n1, Below.heap_setCell _ _ _ _ n1]; exact h.cod
  · rw [heap_setCell_same _ _ _ _ _ _ (heap_setCell_same _ _ _ _ _ _ h.wds), ← lvs_set W k (a, b), Nat.mul_comm 2]; simp
  · rw [Below.heap_setCell _ _ _ _ n4.symm, Below.heap_setCell _ _ _ _ n4.symm]; exact h.sym
  · rw [Below.heap_setCell _ _ _ _ n5.symm, Below.heap_setCell _ _ _ _ n5.symm]; exact h.at_
theorem NwG.setL (h : NwG w l gc gw gs ga W L sy wr) {k : Nat} {y : Int × Int} (hy : L[k]? = some y) :
    (wr.cell? ⟨ga, k * 2, none⟩ = some (.int .i64 y.1) ∧ wr.cell? ⟨ga, k * 2 + 1, none⟩ = some (.int .i64 y.2) ∧ wr.frozen? ⟨ga, k * 2, none⟩ = false ∧ wr.frozen? ⟨ga, k * 2 + 1, none⟩ = false) ∧
    ∀ a b : Int, NwG w l gc gw gs ga W (L.set k (a, b)) sy ((wr.setCell ⟨ga, k * 2, none⟩ (.int .i64 a)).setCell ⟨ga, k * 2 + 1, none⟩ (.int .i64 b)) := by
  obtain ⟨n1, n2, n3, n4, n5, n6⟩ := h.ne
  refine ⟨⟨?_, ?_, freeAt h.at_ _, freeAt h.at_ _⟩, fun a b => ⟨?_, ?_, ?_, ?_, (h.fr.setCell (p := ⟨ga, k * 2, none⟩) (Or.inr h.ge.2.2.2) _).setCell (p := ⟨ga, k * 2 + 1, none⟩) (Or.inr h.ge.2.2.2) _, h.ge, h.ne⟩⟩
  · exact (h.lev hy).1
  · exact (h.lev hy).2
  · rw [Below.heap_setCell _ _ _ _ n3, Below.heap_setCell _ _ _ _ n3]; exact h.cod
  · rw [Below.heap_setCell _ _ _ _ n5, Below.heap_setCell _ _ _ _ n5]; exact h.wds
  · rw [Below.heap_setCell _ _ _ _ n6, Below.heap_setCell _ _ _ _ n6]; exact h.sym
  · rw [heap_setCell_same _ _ _ _ _ _ (heap_setCell_same _ _ _ _ _ _ h.at_), ← lvs_set L k (a, b), Nat.mul_comm 2]; simp
theorem NwG.setS (h : NwG w l gc gw gs ga W L sy wr) {k : Nat} {y : Int} (hy : sy[k]? = some y) :
    (wr.cell? ⟨gs, k, none⟩ = some (.int .i64 y) ∧ wr.frozen? ⟨gs, k, none⟩ = false) ∧ ∀ a : Int, NwG w l gc gw gs ga W L (sy.set k a) (wr.setCell ⟨gs, k, none⟩ (.int .i64 a)) := by
  obtain ⟨n1, n2, n3, n4, n5, n6⟩ := h.ne
  refine ⟨⟨?_, freeAt h.sym _⟩, fun a => ⟨?_, ?_, ?_, ?_, h.fr.setCell (p := ⟨gs, k, none⟩) (Or.inr h.ge.2.2.1) _, h.ge, h.ne⟩⟩
  · rw [cellAt h.sym, List.getElem?_toArray, is_get, hy]; rfl
  · rw [Below.heap_setCell _ _ _ _ n2]; exact h.cod
  · rw [Below.heap_setCell _ _ _ _ n4]; exact h.wds
  · rw [heap_setCell_same _ _ _ _ _ _ h.sym, ← is_set]; simp
  · rw [Below.heap_setCell _ _ _ _ n6.symm]; exact h.at_
end
end Go.Proofs.YtcdhakfmljjaoaaGreatDoor.cd

/-
  What New lays down, step by step: the code's block, its words, its symbols.
-/
namespace Go.Proofs.YtcdhakfmljjaoaaGreatDoor.cd
set_option maxRecDepth 100000
open Go.RowKit Go.Maps Go.Proofs.YtcdhakfmljjaoaaGreatDoor.fl
set_option maxRecDepth 100000

theorem built_code (z : Int) (l : List Int) : Tryz.prog.built 157 [(0, .int .i64 z), (1, cnV (cntL l))] = some (codC z (cntL l) (.slice none 0 0) (.slice none 0 0)).toArray := by
  kernel_rfl
/-- A code's value, of counts that are not looked into. -/
def codV (z : Int) (c : List Int) : Array Value := (codC z c (.slice none 0 0) (.slice none 0 0)).toArray
/-- A step of a region that draws its order: an array is loaded. -/
theorem step_loadCn {ops : Array Oper} {o : Oper} {a : Act} {w : World} {K : Act → World → Prop} {Q : Exit → Act → World → Prop} {E : Prop} (hgd : o.guard = none) (x : Operand) (ho : o.op = .load 153 x) (g : Nat) (c : List Int) (hl : c.length = 16)
    (hx : a.eval x = .pointer (some ⟨g, 0, none⟩)) (hg : w.heap[g]? = some (.cells (is c).toArray 153 (0, 0))) (h : K (a.put o.dst (cnV c)) w) :
    if Region.wanted o (yielded ops a.tmps) = true then Oper.wp Tryz.prog o a w K Q else E := by
  have hw : Region.wanted o (yielded ops a.tmps) = true := by simp [Region.wanted, hgd]
  rw [if_pos hw]
  exact wp_load_row 153 x ho g hx 153 (is c).toArray (0, 0) _ hg Tryz.underlying153 rfl (by rw [List.size_toArray, is_length, hl]; exact infoCn) h
/-- What lies there when the code has its block. -/
structure Nw6 (w : World) (l : List Int) (gm gc : Nat) (wr : World) : Prop where
  mny : wr.heap[gm]? = some (.cells (is (cntL l)).toArray 153 (0, 0))
  cod : wr.heap[gc]? = some (codB l (.slice none 0 0) (.slice none 0 0))
  fr : Fr (fun _ => False) w wr
  ge : w.heap.size ≤ gm ∧ w.heap.size ≤ gc
  ne : gm ≠ gc
theorem nw6_of {w w4 w7 : World} {l : List Int} {gm z : Nat} {xs : List Int} (hz : z = mostW (wordsL l)) (hc : xs = cntL l) (h4 : w4.heap[gm]? = some (.cells (is xs).toArray 153 (0, 0))) (hF4 : Fr (fun _ => False) w w4) (hF7 : Fr (fun _ => False) w4 w7) (hge : w.heap.size ≤ gm) :
    Nw6 w l gm w7.heap.size (w7.alloc (.cells (codC z xs (.slice none 0 0) (.slice none 0 0)).toArray 157)) := by
  subst hz hc
  have hlt := lt_of_block h4
  exact ⟨((hF7.alloc _).block gm hlt id).trans h4, heap_alloc_new _ _, hF4.trans (hF7.alloc _) (fun _ _ e => e), ⟨hge, Nat.le_trans hF4.size hF7.size⟩, by have := hF7.size; omega⟩
abbrev wdZ (n : Nat) : List Value := lvs (List.replicate n (0, 0))
abbrev syZ (n : Nat) : List Value := is (List.replicate n 0)
theorem infoW : (Tryz.prog.info? 163).map (fun i => (i.zero, i.size, i.bytes)) = some (some (.agg #[.int .i64 0, .int .i64 0]), 2, 16) := by kernel_rfl
theorem made_get (z : Array Value) (n i : Nat) : (madeCells z n)[i]? = if i < n then some (z[i % z.size]!) else none := by
  unfold madeCells
  rw [Array.getElem?_map, Array.getElem?_range]
  split <;> rfl
theorem made_words (n : Nat) : madeCells (Value.agg #[.int .i64 0, .int .i64 0]).cells (n * 2) = (wdZ n).toArray := by
  apply Array.ext_getElem?
  intro i
  rw [made_get, List.getElem?_toArray]
  by_cases hi : i < n * 2
  · rw [if_pos hi]
    have hr : (List.replicate n ((0 : Int), (0 : Int)))[i / 2]? = some (0, 0) := by rw [List.getElem?_replicate, if_pos (by omega)]
    obtain ⟨e1, e2⟩ := lvs_get _ _ _ hr
    have e : (wdZ n)[i]? = some (.int .i64 0) := by
      rcases Nat.mod_two_eq_zero_or_one i with h | h
      · have h3 : i = 2 * (i / 2) := by omega
        rw [h3]; exact e1
      · have h3 : i = 2 * (i / 2) + 1 := by omega
        rw [h3]; exact e2
    rw [e]
    show some ((#[Value.int .i64 0, Value.int .i64 0] : Array Value)[i % 2]!) = _
    rcases Nat.mod_two_eq_zero_or_one i with h | h <;> rw [h] <;> rfl
  · rw [if_neg hi, List.getElem?_eq_none (by rw [lvs_length, List.length_replicate]; omega)]
theorem made_syms (n : Nat) : madeCells (Value.int .i64 0).cells (n * 1) = (syZ n).toArray := by
  apply Array.ext_getElem?
  intro i
  rw [made_get, List.getElem?_toArray, is_get, List.getElem?_replicate, Nat.mul_one]
  by_cases hi : i < n
  · rw [if_pos hi, if_pos hi]
    show some ((#[Value.int .i64 0] : Array Value)[i % 1]!) = _
    rw [Nat.mod_one]
    rfl
  · rw [if_neg hi, if_neg hi]
    rfl
theorem mk_words (w : World) (n : Nat) (h : n ≤ 288) : (Instr.makeSlice 155 (.int .i64 (n : Int)) (.int .i64 (n : Int))).run Tryz.prog w = .ok (slA w.heap.size n) (w.alloc (.cells (wdZ n).toArray 163)) := by
  obtain ⟨i0, hi, hz0, hz1, hz2⟩ := info_parts infoW
  have := run_make (P := Tryz.prog) w 155 163 i0 _ Tryz.underlying155 hi hz0 .i64 .i64 n n (by omega) (Int.le_refl _) (by rw [hz2]; omega) (by omega)
  rw [this, hz1, Int.toNat_natCast, made_words]
theorem mk_syms (w : World) (n : Nat) (h : n ≤ 288) : (Instr.makeSlice 66 (.int .i64 (n : Int)) (.int .i64 (n : Int))).run Tryz.prog w = .ok (slA w.heap.size n) (w.alloc (.cells (syZ n).toArray 3)) := by
  obtain ⟨i0, hi, hz0, hz1, hz2⟩ := info_parts infoI
  have := run_make (P := Tryz.prog) w 66 3 i0 _ Tryz.underlying66 hi hz0 .i64 .i64 n n (by omega) (Int.le_refl _) (by rw [hz2]; omega) (by omega)
  rw [this, hz1, Int.toNat_natCast, made_syms]
/-- .. and when it has its words and its symbols. -/
structure Nw7 (w : World) (l : List Int) (gm gc gw gs : Nat) (wr : World) : Prop where
  mny : wr.heap[gm]? = some (.cells (is (cntL l)).toArray 153 (0, 0))
  cod : wr.heap[gc]? = some (codB l (slA gw l.length) (slA gs (codesN l)))
  wds : wr.heap[gw]? = some (.cells (wdZ l.length).toArray 163 (0, 0))
  sym : wr.heap[gs]? = some (.cells (syZ (codesN l)).toArray 3 (0, 0))
  fr : Fr (fun _ => False) w wr
  ge : w.heap.size ≤ gm ∧ w.heap.size ≤ gc ∧ w.heap.size ≤ gw ∧ w.heap.size ≤ gs
  ne : gm ≠ gc ∧ gc ≠ gw ∧ gc ≠ gs ∧ gw ≠ gs ∧ gm ≠ gw ∧ gm ≠ gs
theorem codC_set {z : Int} {c : List Int} {a b : Value} (h : c.length = 16) (u v : Value) : ((codC z c a b).set 17 u).set 18 v = codC z c u v := by
  unfold codC
  rw [List.set_cons_succ, List.set_append_right _ _ (by rw [is_length]; omega), List.set_cons_succ, List.set_append_right _ _ (by rw [is_length]; omega), is_length, h]
  rfl
/-- The code's slices are laid. -/
theorem cod_laid {v : World} {l : List Int} {gc : Nat} {a b : Value} (h : v.heap[gc]? = some (codB l a b)) (x y : Value) :
    ((v.setCell ⟨gc, 17, none⟩ x).setCell ⟨gc, 18, none⟩ y).heap[gc]? = some (codB l x y) ∧ (∀ i, i ≠ gc → ((v.setCell ⟨gc, 17, none⟩ x).setCell ⟨gc, 18, none⟩ y).heap[i]? = v.heap[i]?) ∧ ((v.setCell ⟨gc, 17, none⟩ x).setCell ⟨gc, 18, none⟩ y).heap.size = v.heap.size := by
  refine ⟨?_, fun i hi => ?_, by simp [World.setCell]⟩
  · rw [heap_setCell_same _ _ _ _ _ _ (heap_setCell_same _ _ _ _ _ _ h), List.setIfInBounds_toArray, List.setIfInBounds_toArray, codC_set (cntL_length l)]
  · rw [Below.heap_setCell _ _ _ _ hi, Below.heap_setCell _ _ _ _ hi]
theorem fr_laid {w v : World} {gc : Nat} (h : Fr (fun _ => False) w v) (hg : w.heap.size ≤ gc) (x y : Value) : Fr (fun _ => False) w ((v.setCell ⟨gc, 17, none⟩ x).setCell ⟨gc, 18, none⟩ y) :=
  (h.setCell (p := ⟨gc, 17, none⟩) (Or.inr hg) _).setCell (p := ⟨gc, 18, none⟩) (Or.inr hg) _
theorem nw7_a {w wc w7 : World} {l : List Int} {gm gc n d : Nat} (hn : n = l.length) (hd : d = codesN l) (h : Nw6 w l gm gc wc) (hF : Fr (fun _ => False) (wc.alloc (.cells (wdZ n).toArray 163)).drew w7) :
    Nw7 w l gm gc wc.heap.size w7.heap.size (((w7.setCell ⟨gc, 17, none⟩ (slA wc.heap.size n)).setCell ⟨gc, 18, none⟩ (slA w7.heap.size d)).alloc (.cells (syZ d).toArray 3)) := by
  subst hn hd
  have hF7 : Fr (fun _ => False) wc w7 := (((Fr.refl _ wc).alloc _).drew).trans hF (fun _ _ e => e)
  have hc := (hF7.block gc (lt_of_block h.cod) id).trans h.cod
  have hlm := lt_of_block h.mny
  have hlc := lt_of_block h.cod
  have hsz := hF.size
  have hs1 : (wc.alloc (.cells (wdZ l.length).toArray 163)).drew.heap.size = wc.heap.size + 1 := World.size_alloc _ _
  obtain ⟨k1, k2, k3⟩ := cod_laid hc (slA wc.heap.size l.length) (slA w7.heap.size (codesN l))
  have hw : w7.heap[wc.heap.size]? = some (.cells (wdZ l.length).toArray 163 (0, 0)) := (hF.block wc.heap.size (by omega) id).trans (heap_alloc_new wc _)
  refine ⟨?_, ?_, ?_, ?_, (fr_laid (h.fr.trans hF7 (fun _ _ e => e)) h.ge.2 _ _).alloc _, ⟨h.ge.1, h.ge.2, h.fr.size, by have := h.fr.size; omega⟩, ⟨h.ne, by omega, by omega, by omega, by omega, by omega⟩⟩
  · rw [Below.heap_alloc _ _ _ (by omega), k2 gm h.ne]; exact (hF7.block gm hlm id).trans h.mny
  · rw [Below.heap_alloc _ _ _ (by omega)]; exact k1
  · rw [Below.heap_alloc _ _ _ (by omega), k2 _ (by omega)]; exact hw
  · have := heap_alloc_new ((w7.setCell ⟨gc, 17, none⟩ (slA wc.heap.size l.length)).setCell ⟨gc, 18, none⟩ (slA w7.heap.size (codesN l))) (.cells (syZ (codesN l)).toArray 3)
    rwa [k3] at this
theorem nw7_b {w wc w7 : World} {l : List Int} {gm gc n d : Nat} (hn : n = l.length) (hd : d = codesN l) (h : Nw6 w l gm gc wc) (hF7 : Fr (fun _ => False) wc w7) :
    Nw7 w l gm gc w7.heap.size (w7.heap.size + 1) ((((w7.setCell ⟨gc, 17, none⟩ (slA w7.heap.size n)).setCell ⟨gc, 18, none⟩ (slA (w7.heap.size + 1) d)).alloc (.cells (wdZ n).toArray 163)).alloc (.cells (syZ d).toArray 3)) := by
  subst hn hd
  have hc := (hF7.block gc (lt_of_block h.cod) id).trans h.cod
  have hlm := lt_of_block h.mny
  have hlc := lt_of_block h.cod
  have hsz := hF7.size
  obtain ⟨k1, k2, k3⟩ := cod_laid hc (slA w7.heap.size l.length) (slA (w7.heap.size + 1) (codesN l))
  have e0 := heap_alloc2_old ((w7.setCell ⟨gc, 17, none⟩ (slA w7.heap.size l.length)).setCell ⟨gc, 18, none⟩ (slA (w7.heap.size + 1) (codesN l))) (.cells (wdZ l.length).toArray 163) (.cells (syZ (codesN l)).toArray 3)
  have e1 := heap_alloc2_new ((w7.setCell ⟨gc, 17, none⟩ (slA w7.heap.size l.length)).setCell ⟨gc, 18, none⟩ (slA (w7.heap.size + 1) (codesN l))) (.cells (wdZ l.length).toArray 163) (.cells (syZ (codesN l)).toArray 3)
  rw [k3] at e0 e1
  refine ⟨?_, ?_, e0, e1, ((fr_laid (h.fr.trans hF7 (fun _ _ e => e)) h.ge.2 _ _).alloc _).alloc _, ⟨h.ge.1, h.ge.2, by have := h.fr.size; omega, by have := h.fr.size; omega⟩, ⟨h.ne, by omega, by omega, by omega, by omega, by omega⟩⟩
  · rw [Below.heap_alloc _ _ _ (by rw [World.size_alloc]; omega), Below.heap_alloc _ _ _ (by omega), k2 gm h.ne]; exact (hF7.block gm hlm id).trans h.mny
  · rw [Below.heap_alloc _ _ _ (by rw [World.size_alloc]; omega), Below.heap_alloc _ _ _ (by omega)]; exact k1
theorem nw7_c {w wc w7 : World} {l : List Int} {gm gc n d : Nat} (hn : n = l.length) (hd : d = codesN l) (h : Nw6 w l gm gc wc) (hF7 : Fr (fun _ => False) wc w7) :
    Nw7 w l gm gc (w7.heap.size + 1) w7.heap.size ((((w7.setCell ⟨gc, 17, none⟩ (slA (w7.heap.size + 1) n)).setCell ⟨gc, 18, none⟩ (slA w7.heap.size d)).alloc (.cells (syZ d).toArray 3)).alloc (.cells (wdZ n).toArray 163)) := by
  subst hn hd
  have hc := (hF7.block gc (lt_of_block h.cod) id).trans h.cod
  have hlm := lt_of_block h.mny
  have hlc := lt_of_block h.cod
  have hsz := hF7.size
  obtain ⟨k1, k2, k3⟩ := cod_laid hc (slA (w7.heap.size + 1) l.length) (slA w7.heap.size (codesN l))
  have e0 := heap_alloc2_old ((w7.setCell ⟨gc, 17, none⟩ (slA (w7.heap.size + 1) l.length)).setCell ⟨gc, 18, none⟩ (slA w7.heap.size (codesN l))) (.cells (syZ (codesN l)).toArray 3) (.cells (wdZ l.length).toArray 163)
  have e1 := heap_alloc2_new ((w7.setCell ⟨gc, 17, none⟩ (slA (w7.heap.size + 1) l.length)).setCell ⟨gc, 18, none⟩ (slA w7.heap.size (codesN l))) (.cells (syZ (codesN l)).toArray 3) (.cells (wdZ l.length).toArray 163)
  rw [k3] at e0 e1
  refine ⟨?_, ?_, e1, e0, ((fr_laid (h.fr.trans hF7 (fun _ _ e => e)) h.ge.2 _ _).alloc _).alloc _, ⟨h.ge.1, h.ge.2, by have := h.fr.size; omega, by have := h.fr.size; omega⟩, ⟨h.ne, by omega, by omega, by omega, by omega, by omega⟩⟩
  · rw [Below.heap_alloc _ _ _ (by rw [World.size_alloc]; omega), Below.heap_alloc _ _ _ (by omega), k2 gm h.ne]; exact (hF7.block gm hlm id).trans h.mny
  · rw [Below.heap_alloc _ _ _ (by rw [World.size_alloc]; omega), Below.heap_alloc _ _ _ (by omega)]; exact k1
theorem len16 {c : List Int} (h : c.length = 16) : ∃ x0 x1 x2 x3 x4 x5 x6 x7 x8 x9 x10 x11 x12 x13 x14 x15 : Int, c = [x0, x1, x2, x3, x4, x5, x6, x7, x8, x9, x10, x11, x12, x13, x14, x15] := by
  iterate 16 (rcases c with _ | ⟨_, c⟩; · simp at h)
  obtain rfl : c = [] := by simpa using h
  exact ⟨_, _, _, _, _, _, _, _, _, _, _, _, _, _, _, _, rfl⟩
/-- What lies there when k symbols have their words. -/
def NwS (w : World) (l : List Int) (gc gw gs ga k : Nat) (wr : World) : Prop := ∃ sy, NwG w l gc gw gs ga (wdL l k) (atL l k) sy wr ∧ Sorted l sy k
theorem NwS.start {w wc w8 w9 : World} {l : List Int} {gm gc gw gs : Nat} (h : Nw7 w l gm gc gw gs wc) (hF8 : Fr (fun _ => False) wc w8) (h9 : w9.heap[w8.heap.size]? = some (.cells (lvs (lvL l 15)).toArray 160 (0, 0))) (hF9 : Fr (fun _ => False) w8 w9) :
    NwS w l gc gw gs w8.heap.size 0 w9 := by
  have hF := hF8.trans hF9 (fun _ _ e => e)
  have l1 := lt_of_block h.cod
  have l2 := lt_of_block h.wds
  have l3 := lt_of_block h.sym
  have hz := hF8.size
  refine ⟨List.replicate (codesN l) 0, ⟨(hF.block _ l1 id).trans h.cod, by rw [wdL_zero]; exact (hF.block _ l2 id).trans h.wds, (hF.block _ l3 id).trans h.sym, by rw [← atL_zero]; exact h9, h.fr.trans hF (fun _ _ e => e), ⟨h.ge.2.1, h.ge.2.2.1, h.ge.2.2.2, Nat.le_trans h.fr.size hz⟩, ⟨h.ne.2.1, h.ne.2.2.1, by omega, h.ne.2.2.2.1, by omega, by omega⟩⟩, Sorted.zero (by simp)⟩
theorem NwS.skip {w wr : World} {l : List Int} {gc gw gs ga k : Nat} (h : NwS w l gc gw gs ga k wr) (hx : l[k]? = some 0) : NwS w l gc gw gs ga (k + 1) wr := by
  obtain ⟨sy, h1, h2⟩ := h
  have hk := (List.getElem?_eq_some_iff.1 hx).1
  have hl : lenN l k = 0 := by unfold lenN; rw [hx]; rfl
  refine ⟨sy, ?_, h2.skip hl⟩
  rw [wdL_skip hk hl, atL_skip hx]
  exact h1
/-- A symbol with a code: where its word and its place come from. -/
structure Sym (l : List Int) (k m F S : Nat) : Prop where
  has : Has l k m
  le : m ≤ 15
  f : F = fiN l m + cn (l.take k) m
  s : S = shN l m + cn (l.take k) m
theorem Sym.of {l : List Int} (hb : inB l = true) {k : Nat} {x : Int} (hx : l[k]? = some x) (h0 : x ≠ 0) : ∃ m F S : Nat, x = (m : Int) ∧ Sym l k m F S := by
  have h1 := (inB_iff _).1 hb x (List.mem_of_getElem? hx)
  refine ⟨x.toNat, _, _, by omega, ⟨⟨by rw [hx]; congr 1; omega, by omega⟩, by omega, rfl, rfl⟩⟩
section
variable {l : List Int} {k m F S : Nat}
theorem Sym.lev (h : Sym l k m F S) : (atL l k)[m]? = some ((F : Int), (S : Int)) := by
  rw [atL_get l k (by have := h.le; omega), h.f, h.s]
  rfl
theorem Sym.place (h : Sym l k m F S) : plN l k = S := by
  rw [h.has.place, h.s, cn_pos _ h.has.2]
theorem Sym.word (h : Sym l k m F S) : wdI l k = ((F : Int), (m : Int)) := by
  unfold wdI
  rw [h.has.len, if_pos (by have := h.has.2; omega), h.has.word, h.f, cn_pos _ h.has.2]
  obtain ⟨q, rfl⟩ : ∃ q, m = q + 1 := ⟨m - 1, by have := h.has.2; omega⟩
  rw [fi_succ, Nat.add_sub_cancel]
theorem Sym.small (h : Sym l k m F S) (ho : okB l = true) : F ≤ 66000 ∧ S < codesN l ∧ codesN l ≤ 288 ∧ 1 ≤ m ∧ m ≤ 15 ∧ k < l.length := by
  obtain ⟨h1, h2, _⟩ := (okB_iff l).1 ho
  have hb : inB l = true := (inB_iff l).2 h2
  have hf := fi_small ho h.le
  have hc : cn (l.take k) m ≤ 288 := Nat.le_trans (cn_le _ _) (by rw [List.length_take]; omega)
  have hp := h.has.place_all hb
  rw [h.place] at hp
  have hs := sh_le l 16
  rw [sh_all l hb] at hs
  exact ⟨by rw [h.f]; omega, hp, by omega, h.has.2, h.le, h.has.at_⟩
/-- The symbol has its word. -/
theorem Sym.next {w wr : World} {gc gw gs ga : Nat} {sy : List Int} (hb : inB l = true) (h : Sym l k m F S) (hs : Sorted l sy k) (hg : NwG w l gc gw gs ga ((wdL l k).set k ((F : Int), (m : Int))) ((atL l k).set m ((F : Int) + 1, (S : Int) + 1)) (sy.set S (k : Int)) wr) : NwS w l gc gw gs ga (k + 1) wr := by
  refine ⟨_, ?_, by have := hs.next hb h.has; rwa [h.place] at this⟩
  rw [wdL_next h.has.at_, h.word, atL_next h.has h.le]
  have e1 : ((fiN l m : Int) + (cn (l.take k) m : Int) + 1, (shN l m : Int) + (cn (l.take k) m : Int) + 1) = ((F : Int) + 1, (S : Int) + 1) := by
    rw [h.f, h.s]
    rfl
  rw [e1]
  exact hg
end
/-- What the law wants of New. -/
theorem NwS.done {w wr : World} {l : List Int} {gc gw gs ga : Nat} (ho : okB l = true) (h : NwS w l gc gw gs ga l.length wr) : ∃ S, PC wr ⟨gc, 0, none⟩ l S ∧ (∀ i, S i → w.heap.size ≤ i) ∧ Fr (fun _ => False) w wr := by
  obtain ⟨sy, h1, h2⟩ := h
  refine ⟨fun i => i = gc ∨ i = gw ∨ i = gs, ⟨gc, gw, gs, sy, rfl, ⟨h1.cod, h1.wds, h1.sym, h2, ho, ⟨Or.inl rfl, Or.inr (Or.inl rfl), Or.inr (Or.inr rfl)⟩, ?_⟩⟩, ?_, h1.fr⟩
  · rintro i (rfl | rfl | rfl)
    · exact lt_of_block h1.cod
    · exact lt_of_block h1.wds
    · exact lt_of_block h1.sym
  · rintro i (rfl | rfl | rfl)
    · exact h1.ge.1
    · exact h1.ge.2.1
    · exact h1.ge.2.2.1
end Go.Proofs.YtcdhakfmljjaoaaGreatDoor.cd
