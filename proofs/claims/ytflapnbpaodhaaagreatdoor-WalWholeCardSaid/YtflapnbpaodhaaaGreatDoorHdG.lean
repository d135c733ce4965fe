/-
  The log's room, and what a header tells.
-/
import Derived.Test.YtflapnbpaodhaaaGreatDoorHdF
import Derived.Test.YtflapnbpaodhaaaGreatDoorJB
namespace Go.Proofs.YtflapnbpaodhaaaGreatDoor.hd
set_option maxRecDepth 100000
open Go.RowKit Go.Maps

section
variable {l : List UInt8} (w : World) (hl : l.length = 256)
include hl
set_option maxHeartbeats 400000 in
theorem turn_ok : Calls Tryz.prog 63 #[secV l] w fun e w' => e = .returned (.int .i64 ((numAt l 4 4 : Nat) : Int)) ∧ Fr (fun _ => False) w w' := by
  have HR := Lib.hid (heap_alloc_new w (.cells (secC l) 100))
  have HN := Lib.hid (number_ok (w.alloc (.cells (secC l) 100)) l hl 4 4 (by omega) (by omega) (by omega))
  have HF := Lib.hid ((Fr.refl (fun _ => False) w).alloc (.cells (secC l) 100))
  have HL := Lib.hid hl
  clear hl
  go_enter Tryz.func63, Tryz.ntmps63
  go_wp2_with (first
    | ((with_reducible refine wpList_boxArr ?_ (.tmp 0) ?_ l ?_ ?_); (exact rfl); (exact rfl); (exact rfl))
    | ((with_reducible refine wpList_loadArr ?_ (.tmp 1) ?_ w.heap.size l HL.out ?_ HR.out ?_); (exact rfl); (exact rfl); (exact rfl)))
  refine HN.out.mono ?_
  rintro e w' ⟨rfl, hF⟩
  have HF2 := Lib.hid (HF.out.trans hF (fun _ _ e => e))
  clear hF
  go_wp2_with fail
  go_ret
  exact ⟨rfl, HF2.out⟩
set_option maxHeartbeats 400000 in
theorem count_ok : Calls Tryz.prog 73 #[secV l] w fun e w' => e = .returned (.int .i64 ((numAt l 8 2 : Nat) : Int)) ∧ Fr (fun _ => False) w w' := by
  have HR := Lib.hid (heap_alloc_new w (.cells (secC l) 100))
  have HN := Lib.hid (number_ok (w.alloc (.cells (secC l) 100)) l hl 8 2 (by omega) (by omega) (by omega))
  have HF := Lib.hid ((Fr.refl (fun _ => False) w).alloc (.cells (secC l) 100))
  have HL := Lib.hid hl
  clear hl
  go_enter Tryz.func73, Tryz.ntmps73
  go_wp2_with (first
    | ((with_reducible refine wpList_boxArr ?_ (.tmp 0) ?_ l ?_ ?_); (exact rfl); (exact rfl); (exact rfl))
    | ((with_reducible refine wpList_loadArr ?_ (.tmp 1) ?_ w.heap.size l HL.out ?_ HR.out ?_); (exact rfl); (exact rfl); (exact rfl)))
  refine HN.out.mono ?_
  rintro e w' ⟨rfl, hF⟩
  have HF2 := Lib.hid (HF.out.trans hF (fun _ _ e => e))
  clear hF
  go_wp2_with fail
  go_ret
  exact ⟨rfl, HF2.out⟩
set_option maxHeartbeats 400000 in
theorem homeOf_ok (i : Nat) (hi : i ≤ 122) : Calls Tryz.prog 74 #[secV l, .int .i64 (i : Int)] w fun e w' => e = .returned (.int .i64 ((numAt l (10 + i * 2) 2 : Nat) : Int)) ∧ Fr (fun _ => False) w w' := by
  have HR := Lib.hid (heap_alloc_new w (.cells (secC l) 100))
  have HN := Lib.hid (number_ok (w.alloc (.cells (secC l) 100)) l hl (10 + i * 2) 2 (by omega) (by omega) (by omega))
  have HF := Lib.hid ((Fr.refl (fun _ => False) w).alloc (.cells (secC l) 100))
  have HL := Lib.hid hl
  clear hl
  go_enter Tryz.func74, Tryz.ntmps74
  go_wp2_with (first
    | ((with_reducible refine wpList_boxArr ?_ (.tmp 0) ?_ l ?_ ?_); (exact rfl); (exact rfl); (exact rfl))
    | ((with_reducible refine wpList_loadArr ?_ (.tmp 2) ?_ w.heap.size l HL.out ?_ HR.out ?_); (exact rfl); (exact rfl); (exact rfl)))
  refine HN.out.mono ?_
  rintro e w' ⟨rfl, hF⟩
  have HF2 := Lib.hid (HF.out.trans hF (fun _ _ e => e))
  clear hF
  go_wp2_with fail
  go_ret
  exact ⟨rfl, HF2.out⟩
end

/-- A room, as a value. -/
def roomV (pb at_ cap : Nat) : Value := .agg #[.pointer (some ⟨pb, 0, none⟩), .int .i64 (at_ : Int), .int .i64 (cap : Int)]
set_option maxHeartbeats 400000 in
theorem data_any (w : World) (pb at_ cap : Nat) (h1 : at_ ≤ 100000) : Calls Tryz.prog 65 #[roomV pb at_ cap] w fun e w' => e = .returned (.int .i64 ((at_ + 1 : Nat) : Int)) ∧ Fr (fun _ => False) w w' := by
  have HF := Lib.hid ((Fr.refl (fun _ => False) w).alloc (.cells #[.pointer (some ⟨pb, 0, none⟩), .int .i64 (at_ : Int), .int .i64 (cap : Int)] 72))
  unfold roomV
  go_enter Tryz.func65, Tryz.ntmps65
  go_wp2
  go_ret
  exact ⟨by simp, HF.out⟩
/-- A room in its box. -/
def BoxR (w : World) (g pb at_ cap : Nat) : Prop := w.heap[g]? = some (.cells #[.pointer (some ⟨pb, 0, none⟩), .int .i64 (at_ : Int), .int .i64 (cap : Int)] 72 (0, 0))
theorem BoxR.calm {w w' : World} {g pb at_ cap : Nat} (h : BoxR w g pb at_ cap) (hF : Fr (fun _ => False) w w') : BoxR w' g pb at_ cap := (hF.block g (Array.getElem?_eq_some_iff.1 h).1 id).trans h
theorem BoxR.c {w : World} {g pb at_ cap : Nat} (h : BoxR w g pb at_ cap) : w.cell? ⟨g, 0, none⟩ = some (.pointer (some ⟨pb, 0, none⟩)) ∧ w.cell? ⟨g, 1, none⟩ = some (.int .i64 (at_ : Int)) ∧ w.cell? ⟨g, 2, none⟩ = some (.int .i64 (cap : Int)) :=
  ⟨by rw [cellAt h]; rfl, by rw [cellAt h]; rfl, by rw [cellAt h]; rfl⟩
theorem BoxR.mk_ (w : World) (pb at_ cap : Nat) : BoxR (w.alloc (.cells #[.pointer (some ⟨pb, 0, none⟩), .int .i64 (at_ : Int), .int .i64 (cap : Int)] 72)) w.heap.size pb at_ cap := heap_alloc_new _ _

set_option maxHeartbeats 1000000 in
theorem home_any (w : World) (pb at_ cap : Nat) (h1 : at_ ≤ 100000) (h2 : cap ≤ 100000) : Calls Tryz.prog 46 #[roomV pb at_ cap] w fun e w' => e = .returned (.int .i64 ((at_ + 1 + cap : Nat) : Int)) ∧ Fr (fun _ => False) w w' := by
  have HF := Lib.hid ((Fr.refl (fun _ => False) w).alloc (.cells #[.pointer (some ⟨pb, 0, none⟩), .int .i64 (at_ : Int), .int .i64 (cap : Int)] 72))
  have HB := Lib.hid (BoxR.mk_ w pb at_ cap)
  have HD : Hid (∀ w2, Calls Tryz.prog 65 #[.agg #[.pointer (some ⟨pb, 0, none⟩), .int .i64 (at_ : Int), .int .i64 (cap : Int)]] w2 fun e w' => e = .returned (.int .i64 ((at_ + 1 : Nat) : Int)) ∧ Fr (fun _ => False) w2 w') := Lib.hid fun w2 => data_any w2 pb at_ cap h1
  have HW := Lib.hid (show IntKind.i64.wrap ((at_ : Int) + 1 + cap) = (at_ : Int) + 1 + cap from IntWalk.i64_in _ ⟨by omega, by omega⟩)
  unfold roomV
  go_enter Tryz.func46, Tryz.ntmps46
  go_wp2
  go_region_held3 (fun w' => w'.cell? ⟨w.heap.size, 0, none⟩ = some (.pointer (some ⟨pb, 0, none⟩)) ∧ w'.cell? ⟨w.heap.size, 1, none⟩ = some (.int .i64 (at_ : Int)) ∧ w'.cell? ⟨w.heap.size, 2, none⟩ = some (.int .i64 (cap : Int)))
    (first
      | exact HB.out.drew.c
      | exact (HB.out.calm (Fr.refl _ _).drew).c
      | exact HB3.out.c)
    (first
      | (go_at_call 65; (refine (HD.out _).mono ?_); rintro e w3 ⟨rfl, hF3⟩; have HB3 := Lib.hid ((HB.out.calm (Fr.refl _ _).drew).calm hF3); have HF3 := Lib.hid ((HF.out.drew).trans hF3 (fun _ _ e => e)); clear hF3))
  all_goals
    go_wp2
    go_ret
    exact ⟨by simp [HW.out], HF3.out⟩

set_option maxHeartbeats 400000 in
theorem sectors_cell (pb N : Nat) (hN : 0 < (N : Int)) (w : World) (c0 : w.cell? ⟨pb, 0, none⟩ = some (.int .i64 N)) : Calls Tryz.prog 59 #[.pointer (some ⟨pb, 0, none⟩)] w fun e w' => e = .returned (.int .i64 N) ∧ w = w' := by
  have HM := Lib.hid (made_yes pb N w c0 hN)
  go_enter Tryz.func59, Tryz.ntmps59
  go_wp2_with (go_at_call 29; refine (HM.out).mono ?_; rintro e w' ⟨rfl, rfl⟩)
  go_ret
  exact ⟨rfl, rfl⟩

set_option maxHeartbeats 1000000 in
theorem isHome_any (w : World) (pb at_ cap N : Nat) (h1 : at_ ≤ 100000) (h2 : cap ≤ 100000) (hN : 0 < (N : Int)) (c0 : w.cell? ⟨pb, 0, none⟩ = some (.int .i64 N)) (hpb : pb < w.heap.size) (x : Int) :
    Calls Tryz.prog 53 #[roomV pb at_ cap, .int .i64 x] w fun e w' => e = .returned (.bool (decide (((at_ + 1 + cap : Nat) : Int) ≤ x) && decide (x < N))) ∧ Fr (fun _ => False) w w' := by
  have HF := Lib.hid ((Fr.refl (fun _ => False) w).alloc (.cells #[.pointer (some ⟨pb, 0, none⟩), .int .i64 (at_ : Int), .int .i64 (cap : Int)] 72))
  have HB := Lib.hid (BoxR.mk_ w pb at_ cap)
  have HH : Hid (∀ w2, Calls Tryz.prog 46 #[.agg #[.pointer (some ⟨pb, 0, none⟩), .int .i64 (at_ : Int), .int .i64 (cap : Int)]] w2 fun e w' => e = .returned (.int .i64 ((at_ + 1 + cap : Nat) : Int)) ∧ Fr (fun _ => False) w2 w') := Lib.hid fun w2 => home_any w2 pb at_ cap h1 h2
  have HS : Hid (∀ w2, Fr (fun _ => False) w w2 → Calls Tryz.prog 59 #[.pointer (some ⟨pb, 0, none⟩)] w2 fun e w' => e = .returned (.int .i64 N) ∧ w2 = w') := Lib.hid fun w2 hF => sectors_cell pb N hN w2 ((World.cell?_of_block (w := w) (w' := w2) (a := ⟨pb, 0, none⟩) (hF.block pb hpb id)).trans c0)
  obtain ⟨hm, hhm⟩ : ∃ hm : Int, hm = ((at_ + 1 + cap : Nat) : Int) := ⟨_, rfl⟩
  rw [← hhm] at HH ⊢
  clear h1 h2 c0 hpb hhm
  by_cases hx : hm ≤ x
  · unfold roomV
    go_enter Tryz.func53, Tryz.ntmps53
    go_wp2_with fail
    refine (HH.out _).mono ?_
    rintro e w3 ⟨rfl, hF3⟩
    have b0 := (HB.out.calm hF3).c.1
    have HF3 := Lib.hid (HF.out.trans hF3 (fun _ _ e => e))
    clear hF3
    go_wp2_with fail
    refine (HS.out _ HF3.out).mono ?_
    rintro e w4 ⟨rfl, rfl⟩
    go_wp2
    go_ret
    exact ⟨by simp [hx], HF3.out⟩
  · unfold roomV
    go_enter Tryz.func53, Tryz.ntmps53
    go_wp2_with fail
    refine (HH.out _).mono ?_
    rintro e w3 ⟨rfl, hF3⟩
    have HF3 := Lib.hid (HF.out.trans hF3 (fun _ _ e => e))
    clear hF3
    go_wp2
    go_ret
    exact ⟨by simp [show ¬ hm ≤ x by omega], HF3.out⟩
end Go.Proofs.YtflapnbpaodhaaaGreatDoor.hd
