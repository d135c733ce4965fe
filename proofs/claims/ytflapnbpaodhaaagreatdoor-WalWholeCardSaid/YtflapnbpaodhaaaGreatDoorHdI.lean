/-
  The turn is set; steps in a row.
-/
import Derived.Test.YtflapnbpaodhaaaGreatDoorHdZ
namespace Go.Proofs.YtflapnbpaodhaaaGreatDoor.hd
set_option maxRecDepth 100000
open Go.RowKit Go.Maps ds
set_option maxRecDepth 100000

set_option maxHeartbeats 1000000 in
theorem turn_set (w : World) (gt gw wb pb at_ rc t0 turn : Nat) (sp : Bool) (h1 : w.heap[gt]? = some (.cells #[.int .i64 (turn : Int)] 3 (0, 0))) (h2 : w.heap[gw]? = some (.cells #[.pointer (some ⟨wb, 0, none⟩)] 27 (0, 0))) (h3 : w.heap[wb]? = some (walO pb at_ rc t0 sp)) :
    Calls Tryz.prog 55 #[.pointer (some ⟨gt, 0, none⟩), .pointer (some ⟨gw, 0, none⟩)] w fun e w' => e = .returned (.int .i64 0) ∧ w'.heap[wb]? = some (walO pb at_ rc turn sp) ∧ Fr (· = wb) w w' := by
  have c1 := box_c h1
  have c2 := box_c h2
  have c3 := (wal_c h3).2.2.2.1
  have f3 : w.frozen? ⟨wb, 3, none⟩ = false := freeAt h3 3
  have H3 := Lib.hid h3
  clear h1 h2 h3
  go_enter Tryz.func55, Tryz.ntmps55
  go_wp2
  go_ret
  exact ⟨rfl, heap_setCell_same _ _ _ _ _ (.int .i64 (turn : Int)) H3.out, (Fr.refl (· = wb) w).setCell (p := ⟨wb, 3, none⟩) (Or.inl rfl) _⟩

theorem step_keep2 {w w' : World} {v : Value} {pb at_ rc n cap : Nat} {p : Option Addr} (h : StepW w v pb at_ rc p n cap) (hK : Keep2 w w') : StepW w' v pb at_ rc p n cap := by
  obtain ⟨gl, gr, rfl, a, b⟩ := h
  exact ⟨gl, gr, rfl, (hK.2 _ gl ⟨_, a⟩ (by decide)).trans a, (hK.2 _ gr ⟨_, b⟩ (by decide)).trans b⟩
theorem isD_wal {w0 w w' : World} {pb N B wb : Nat} {d : DS} (h : IsD w0 pb N B d w) (hw : Ty w 74 wb) (h0 : w0.heap.size ≤ wb) (hF : Fr (· = wb) w w') : IsD w0 pb N B d w' := by
  obtain ⟨⟨bv, bt, c, V, T, hg, h1⟩, hf⟩ := h
  have ha := apart hg hw (by decide)
  exact ⟨⟨bv, bt, c, V, T, hg.kept hF (fun e => ha.1 e.symm) (fun e => ha.2.1 e.symm) (fun e => ha.2.2 e.symm), h1⟩, fr_go hf hF (fun i e => by omega)⟩
theorem keep2_wal {w w' : World} {wb : Nat} (hw : Ty w 74 wb) (hF : Fr (· = wb) w w') : Keep2 w w' := ⟨hF.size, fun t i hi ht => hF.block i hi.lt (fun e => by subst e; exact hi.ne hw ht.2 rfl)⟩

/-- One step ahead of others. -/
theorem runs_step {w0 w : World} {pb N B : Nat} {d : DS} {v : Value} {vs : List Value} {at_ rc n cap : Nat} {p : Option Addr} {l : List (Int × List UInt8)} {Q : Int → World → Prop} (hst : StepW w v pb at_ rc p n cap) (hln : n = l.length) (hD : IsD w0 pb N B d w) (hB : BksT w p l) (hn : l.length ≤ 1000) (hbig : B + 2 * l.length + 2 ≤ 100000000) (hx : ∀ x ∈ l, 0 ≤ x.1 ∧ x.1 < N)
    (h : ∀ w', IsD w0 pb N (B + 2 * l.length + 2) (stepR d l).1 w' → Keep w w' → ((stepR d l).2 ≠ 0 → Q (stepR d l).2 w') ∧ ((stepR d l).2 = 0 → Runs vs w' Q)) : Runs (v :: vs) w Q := by
  obtain ⟨gl, gr, rfl, hgl, hgr⟩ := hst
  subst hln
  refine ⟨_, _, rfl, Or.inl ⟨rfl, _, _, rfl⟩, (step_any w0 w pb N B d hD at_ rc gl gr p cap l hgl hgr hB hn hbig hx).mono ?_⟩
  rintro e w' ⟨rfl, hD', hK⟩
  exact ⟨_, rfl, keep_two hK, fun hz => (h w' hD' hK).1 hz, fun hz => (h w' hD' hK).2 hz⟩

theorem one_mem {x : Int × List UInt8} {N : Nat} (h : 0 ≤ x.1 ∧ x.1 < N) : ∀ y ∈ [x], 0 ≤ y.1 ∧ y.1 < (N : Int) := fun y hy => by
  obtain rfl : y = x := by simpa using hy
  exact h
/-- What bringing home does, and answers. -/
def bringR (d : DS) (at_ turn : Nat) (l : List (Int × List UInt8)) : DS × Int :=
  if (stepR d l).2 = 0 then stepR (stepR d l).1 [((at_ : Int), hdrL turn [])] else stepR d l
theorem bring_runs {w0 w : World} {pb N B : Nat} {d : DS} {v1 v2 : Value} {at_ rc turn n cap : Nat} {p p2 : Option Addr} {l : List (Int × List UInt8)} {Q : Int → World → Prop} (h1 : StepW w v1 pb at_ rc p n cap) (h2 : StepW w v2 pb at_ rc p2 1 1) (hln : n = l.length) (hD : IsD w0 pb N B d w) (hB : BksT w p l) (hB2 : BksT w p2 [((at_ : Int), hdrL turn [])]) (hn : l.length ≤ 1000) (hbig : B + 2 * l.length + 6 ≤ 100000000) (hx : ∀ x ∈ l, 0 ≤ x.1 ∧ x.1 < N) (hat : at_ < N)
    (h : ∀ w', IsD w0 pb N (B + 2 * l.length + 6) (bringR d at_ turn l).1 w' → Keep w w' → Q (bringR d at_ turn l).2 w') : Runs [v1, v2] w Q := by
  refine runs_step h1 hln hD hB hn (by omega) hx fun w1 hD1 hK1 => ⟨fun hz => ?_, fun hz => ?_⟩
  · have e : bringR d at_ turn l = stepR d l := if_neg hz
    have := h w1 (by rw [e]; exact isD_big hD1 (by omega) hbig) hK1
    rwa [e] at this
  · have e : bringR d at_ turn l = stepR (stepR d l).1 [((at_ : Int), hdrL turn [])] := if_pos hz
    have hk := keep_two hK1
    refine runs_step (step_keep2 h2 hk) rfl hD1 (hB2.keep2 hk) (by simp) (by simp <;> omega) (one_mem (by simp <;> omega)) fun w2 hD2 hK2 => ?_
    have hq := h w2 (by rw [e]; exact isD_big hD2 (by simp <;> omega) hbig) (hK1.trans hK2)
    rw [e] at hq
    exact ⟨fun _ => hq, fun hz2 => by show Q 0 w2; rw [← hz2]; exact hq⟩

/-- What a commit does, answers, and which turn it leaves. -/
def commitR (d : DS) (at_ t0 turn : Nat) (l : List (Int × List UInt8)) : DS × Int × Nat :=
  if (stepR d (aheadF (at_ + 1) l)).2 = 0 then
    (if (stepR (stepR d (aheadF (at_ + 1) l)).1 [((at_ : Int), hdrL turn l)]).2 = 0 then
      ((bringR (stepR (stepR d (aheadF (at_ + 1) l)).1 [((at_ : Int), hdrL turn l)]).1 at_ turn l).1, (bringR (stepR (stepR d (aheadF (at_ + 1) l)).1 [((at_ : Int), hdrL turn l)]).1 at_ turn l).2, turn)
    else ((stepR (stepR d (aheadF (at_ + 1) l)).1 [((at_ : Int), hdrL turn l)]).1, (stepR (stepR d (aheadF (at_ + 1) l)).1 [((at_ : Int), hdrL turn l)]).2, t0))
  else ((stepR d (aheadF (at_ + 1) l)).1, (stepR d (aheadF (at_ + 1) l)).2, t0)
theorem aheadF_in {N : Nat} : ∀ (l : List (Int × List UInt8)) (a : Nat), a + l.length ≤ N → ∀ x ∈ aheadF a l, 0 ≤ x.1 ∧ x.1 < (N : Int)
  | [], a, _, x, hx => by cases hx
  | y :: r, a, h, x, hx => by
    rw [List.length_cons] at h
    rcases List.mem_cons.1 hx with rfl | hx
    · exact ⟨by simp, by simp; omega⟩
    · exact aheadF_in r (a + 1) (by omega) x hx

theorem commit_runs {w0 w : World} {pb N B wb : Nat} {d : DS} {v1 v2 v4 v5 : Value} {at_ rc t0 turn n cap c1 gt gw : Nat} {sp : Bool} {p p1 p2 p5 : Option Addr} {l : List (Int × List UInt8)} {Q : Int → World → Prop}
    (h1 : StepW w v1 pb at_ rc p1 n c1) (b1 : BksT w p1 (aheadF (at_ + 1) l)) (h2 : StepW w v2 pb at_ rc p2 1 1) (b2 : BksT w p2 [((at_ : Int), hdrL turn l)])
    (hgt : w.heap[gt]? = some (.cells #[.int .i64 (turn : Int)] 3 (0, 0))) (hgw : w.heap[gw]? = some (.cells #[.pointer (some ⟨wb, 0, none⟩)] 27 (0, 0))) (hwb : w.heap[wb]? = some (walO pb at_ rc t0 sp)) (h0 : w0.heap.size ≤ wb)
    (h4 : StepW w v4 pb at_ rc p n cap) (b4 : BksT w p l) (h5 : StepW w v5 pb at_ rc p5 1 1) (b5 : BksT w p5 [((at_ : Int), hdrL turn [])])
    (hln : n = l.length) (hD : IsD w0 pb N B d w) (hn : l.length ≤ rc) (hrc : rc ≤ 100) (hbig : B + 4 * l.length + 12 ≤ 100000000) (hx : ∀ x ∈ l, 0 ≤ x.1 ∧ x.1 < N) (hat : at_ + rc < N)
    (h : ∀ w', IsD w0 pb N (B + 4 * l.length + 12) (commitR d at_ t0 turn l).1 w' → Keep2 w w' → w'.heap[wb]? = some (walO pb at_ rc (commitR d at_ t0 turn l).2.2 sp) → Q (commitR d at_ t0 turn l).2.1 w') :
    Runs [v1, v2, .func (.func 55) #[] #[.pointer (some ⟨gt, 0, none⟩), .pointer (some ⟨gw, 0, none⟩)], v4, v5] w Q := by
  have ha := aheadF_length l (at_ + 1)
  refine runs_step h1 (by rw [ha]; exact hln) hD b1 (by omega) (by omega) (aheadF_in l (at_ + 1) (by omega)) fun w1 hD1 hK1 => ⟨fun hz => ?_, fun hz => ?_⟩
  · have e : commitR d at_ t0 turn l = ((stepR d (aheadF (at_ + 1) l)).1, (stepR d (aheadF (at_ + 1) l)).2, t0) := if_neg hz
    rw [e] at h
    exact h w1 (isD_big hD1 (by omega) hbig) (keep_two hK1) ((hK1.2 _ wb ⟨_, hwb⟩ (by decide)).trans hwb)
  have hk1 := keep_two hK1
  refine runs_step (step_keep2 h2 hk1) rfl hD1 (b2.keep2 hk1) (by simp) (by simp <;> omega) (one_mem (by simp <;> omega)) fun w2 hD2 hK2 => ⟨fun hz2 => ?_, fun hz2 => ?_⟩
  · have e : commitR d at_ t0 turn l = ((stepR (stepR d (aheadF (at_ + 1) l)).1 [((at_ : Int), hdrL turn l)]).1, (stepR (stepR d (aheadF (at_ + 1) l)).1 [((at_ : Int), hdrL turn l)]).2, t0) := (if_pos hz).trans (if_neg hz2)
    rw [e] at h
    exact h w2 (isD_big hD2 (by simp <;> omega) hbig) (keep_two (hK1.trans hK2)) (((hK1.trans hK2).2 _ wb ⟨_, hwb⟩ (by decide)).trans hwb)
  have hK12 := hK1.trans hK2
  have hk2 := keep_two hK12
  refine ⟨_, _, rfl, Or.inr ⟨rfl, _, _, rfl⟩, (turn_set w2 gt gw wb pb at_ rc t0 turn sp ((hk2.2 _ gt ⟨_, hgt⟩ (by decide)).trans hgt) ((hk2.2 _ gw ⟨_, hgw⟩ (by decide)).trans hgw) ((hK12.2 _ wb ⟨_, hwb⟩ (by decide)).trans hwb)).mono ?_⟩
  rintro e w3 ⟨rfl, hw3, hF3⟩
  have hty : Ty w2 74 wb := hK12.ty ⟨_, hwb⟩ (by decide)
  have hk3 := keep2_wal hty hF3
  have hk23 := hk2.trans hk3
  refine ⟨0, rfl, hk3, fun hz => absurd rfl hz, fun _ => ?_⟩
  have e : commitR d at_ t0 turn l = ((bringR (stepR (stepR d (aheadF (at_ + 1) l)).1 [((at_ : Int), hdrL turn l)]).1 at_ turn l).1, (bringR (stepR (stepR d (aheadF (at_ + 1) l)).1 [((at_ : Int), hdrL turn l)]).1 at_ turn l).2, turn) := (if_pos hz).trans (if_pos hz2)
  rw [e] at h
  exact bring_runs (step_keep2 h4 hk23) (step_keep2 h5 hk23) hln (isD_wal hD2 hty h0 hF3) (b4.keep2 hk23) (b5.keep2 hk23) (by omega) (by simp <;> omega) hx (by omega) fun w4 hD4 hK4 => h w4 (isD_big hD4 (by simp <;> omega) hbig) (hk23.trans (keep_two hK4)) ((hK4.2 _ wb ⟨_, hw3⟩ (by decide)).trans hw3)
end Go.Proofs.YtflapnbpaodhaaaGreatDoor.hd
