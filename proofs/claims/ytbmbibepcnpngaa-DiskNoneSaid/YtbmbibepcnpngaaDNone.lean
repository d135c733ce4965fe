/-
  DiskNone: a disk that no call made reads and takes nothing, whatever sector is named. No condition.
-/
import Derived.Test.YtbmbibepcnpngaaRows
import Derived.Test.YtbmbibepcnpngaaWorks
import Derived.Test.YtbmbibepcnpngaaNone
import Derived.ProofKit
import Derived.OpenShut
namespace Go.Proofs.Ytbmbibepcnpngaa.diskNone
open Go.ChangeShapes Go.WideShapes Go.ChangeAt Go.RowKit

theorem own : ownKnob Try.prog.godebug = none := by kernel_rfl

/-- Block z's first cell is a nought: a disk that no call made. -/
def ZAt (w : World) (z : Nat) : Prop := z < w.heap.size ∧ w.cell? ⟨z, 0, none⟩ = some (.int .i64 0)
theorem ZAt.calm {w w' : World} {z : Nat} (h : ZAt w z) (hF : Fr (fun _ => False) w w') : ZAt w' z := ⟨Nat.lt_of_lt_of_le h.1 hF.size, (World.cell?_of_block (w := w) (w' := w') (hF.block z h.1 id)).trans h.2⟩
theorem ZAt.unmade {w : World} {z : Nat} (h : ZAt w z) : Unmade w (.pointer (some ⟨z, 0, none⟩)) := unmade_zero w z h.2

set_option maxRecDepth 100000 in
set_option maxHeartbeats 4000000 in
theorem walk (a0 : Int) (w : World) :
    Calls Try.prog 8 #[.int .i64 a0] w fun e w' => e = .returned (.bool true) ∧ Fr (fun _ => False) w w' := by
  go_enter Try.func8, Try.ntmps8
  go_wp2_with fail
  refine (works_any w).mono ?_
  rintro e w1 ⟨rfl, hF1⟩
  have F1 := Lib.hid hF1
  clear hF1
  go_wp2_with fail
  obtain ⟨wz, hwz⟩ : ∃ wz, wz = w1.alloc (.cells #[.int .i64 0, .map none, .map none, .int .i64 0, .int .i64 0, .bool false] 65) := ⟨_, rfl⟩
  have hz : ZAt wz w1.heap.size ∧ Fr (fun _ => False) w wz := by
    rw [hwz]
    exact ⟨⟨by simp, by rw [cellAt (heap_alloc_new _ _)]; rfl⟩, F1.out.alloc _⟩
  rw [← hwz]
  have HZ := Lib.hid hz
  clear hwz hz F1
  refine (none_read _ _ (unmade_nil _) a0).mono ?_
  rintro e w' ⟨rfl, rfl⟩
  go_wp2_with fail
  refine (none_read _ _ HZ.out.1.unmade a0).mono ?_
  rintro e w' ⟨rfl, rfl⟩
  go_wp2_with fail
  refine (none_limit _ _ (unmade_nil _) a0).mono ?_
  rintro e w' ⟨rfl, rfl⟩
  go_wp2_with fail
  refine (none_limit _ _ HZ.out.1.unmade a0).mono ?_
  rintro e w' ⟨rfl, rfl⟩
  go_wp2_with fail
  refine (full_has _ 1).mono ?_
  rintro e v1 ⟨g1, k1, rfl, _, hF1⟩
  have HZ1 := Lib.hid (show ZAt v1 w1.heap.size ∧ Fr (fun _ => False) w v1 from ⟨HZ.out.1.calm hF1, HZ.out.2.trans hF1 (fun _ _ e => e)⟩)
  clear hF1 HZ
  go_wp2_with fail
  refine (none_write _ _ (unmade_nil _) a0 _).mono ?_
  rintro e w' ⟨rfl, rfl⟩
  go_wp2_with fail
  refine (full_has _ 1).mono ?_
  rintro e v2 ⟨g2, k2, rfl, _, hF2⟩
  have HZ2 := Lib.hid (show ZAt v2 w1.heap.size ∧ Fr (fun _ => False) w v2 from ⟨HZ1.out.1.calm hF2, HZ1.out.2.trans hF2 (fun _ _ e => e)⟩)
  clear hF2 HZ1
  go_wp2_with fail
  refine (none_write _ _ HZ2.out.1.unmade a0 _).mono ?_
  rintro e w' ⟨rfl, rfl⟩
  go_wp2_with fail
  refine (none_sync _ _ (unmade_nil _)).mono ?_
  rintro e w' ⟨rfl, rfl⟩
  go_wp2_with fail
  refine (none_sync _ _ HZ2.out.1.unmade).mono ?_
  rintro e w' ⟨rfl, rfl⟩
  go_wp2_with fail
  refine (none_crash _ _ (unmade_nil _) _).mono ?_
  rintro e w' ⟨rfl, rfl⟩
  go_wp2_with fail
  refine (none_crash _ _ HZ2.out.1.unmade _).mono ?_
  rintro e w' ⟨rfl, rfl⟩
  go_wp2_with fail
  refine (none_sectors _ _ (unmade_nil _)).mono ?_
  rintro e w' ⟨rfl, rfl⟩
  go_wp2_with fail
  refine (none_sectors _ _ HZ2.out.1.unmade).mono ?_
  rintro e w' ⟨rfl, rfl⟩
  go_wp2_with fail
  refine (none_ops _ _ (unmade_nil _)).mono ?_
  rintro e w' ⟨rfl, rfl⟩
  go_wp2_with fail
  refine (none_ops _ _ HZ2.out.1.unmade).mono ?_
  rintro e w' ⟨rfl, rfl⟩
  go_wp2_with fail
  refine (none_pending _ _ (unmade_nil _)).mono ?_
  rintro e w' ⟨rfl, rfl⟩
  go_wp2_with fail
  refine (none_pending _ _ HZ2.out.1.unmade).mono ?_
  rintro e w' ⟨rfl, rfl⟩
  go_wp2_with fail
  refine (none_image _ _ (unmade_nil _)).mono ?_
  rintro e w' ⟨rfl, rfl⟩
  go_wp2_with fail
  refine (none_image _ _ HZ2.out.1.unmade).mono ?_
  rintro e w' ⟨rfl, rfl⟩
  go_wp2_with fail
  refine (none_sure _ _ (unmade_nil _)).mono ?_
  rintro e w' ⟨rfl, rfl⟩
  go_wp2_with fail
  refine (none_sure _ _ HZ2.out.1.unmade).mono ?_
  rintro e w' ⟨rfl, rfl⟩
  go_wp2_with fail
  refine (none_clone _ _ (unmade_nil _)).mono ?_
  rintro e w' ⟨rfl, rfl⟩
  go_wp2_with fail
  refine (none_clone _ _ HZ2.out.1.unmade).mono ?_
  rintro e w' ⟨rfl, rfl⟩
  go_wp2_with fail
  go_ret
  exact ⟨rfl, HZ2.out.2⟩

/-! ### the row -/
set_option maxRecDepth 100000 in
theorem lifted (os : Os) (started : os.Started) (H : Type) (enc : TypeId × Value → H) :
    ReturnsInHanded {} Try.checked os 8 .any (Rows.diskNoneSpec.pre6 enc Try.prog Try.f8 Rows.diskNoneRow.domain false) (Rows.diskNoneSpec.post enc Try.prog Try.f8 false true false false) := by
  refine returnsInHanded_of_change (C := Try.checked) own started (by kernel_rfl) Try.func8
    (ChangeSpec.witness6 (enc := enc) (C := Try.checked) false ⟨#[], #[.int .i64 0], []⟩ 8 (by kernel_rfl) (by kernel_rfl) (by kernel_rfl) (by kernel_rfl)) ?_
  intro W base args ds gs before hval0 hW _ _
  have hval : ∀ (j : Nat) t v, Try.f8.params[j]? = some t → args[j]? = some v → Value.okWide Try.prog W .any base t v := hval0
  have hW' := hW
  obtain ⟨p, q, hA0, hV, rfl, hfz, hnd⟩ := hW
  have hA : DataW.TrodAll enc Try.prog W 0 (fun _ => true) true Try.f8.params.toList args.toList ds p := hA0
  rw [Try.params8] at hA hval
  obtain ⟨v0, vs0, d0, ds0, p0, q0, hargs, rfl, rfl, h0, r0⟩ := trodAll_cons hA
  obtain ⟨rfl, rfl, rfl⟩ := trodAll_nil r0
  obtain rfl : args = #[v0] := by cases args; simp_all
  obtain ⟨rfl, rfl⟩ := trodVars_none hV
  obtain ⟨a0, rfl, rfl, rfl, w0⟩ := open_int Try.underlying3 (hval 0 3 v0 rfl rfl) h0
  clear hA0 hval0
  simp only [List.append_nil] at hW'
  refine (walk a0 W).mono fun e W' ⟨he, hg⟩ => ?_
  subst he
  have hB : Below W.heap.size W W' := hg.below (Nat.le_refl _) (fun _ _ e => e.elim)
  exact ⟨_, rfl, _, _, _, [], [], [], hW', trodAll_cons_mk (shut_bool Try.underlying4 _) trodAll_mk0, trodAll_cons_mk (shut_int Try.underlying3 w0) trodAll_mk0, rfl, hB.frame _, fun h => by cases h⟩

theorem over : Rows.diskNoneRow.holds Try.pinned (OpenSpec.ofChange Rows.diskNoneSpec) :=
  OpenClaim.holds_of_wide 8 Try.f8 rfl rfl rfl rfl rfl rfl rfl ⟨rfl, rfl, rfl, rfl, rfl⟩ rfl rfl rfl rfl rfl (by kernel_rfl) Try.func8 (by kernel_rfl)
    (of_decide_eq_true (by kernel_rfl)) (by unfold Func.isWrapper; first | (rw [if_pos (by decide +kernel)]; kernel_rfl) | (rw [if_neg (by decide +kernel)]; exact ⟨rfl, rfl⟩))
    (fun os started H enc _ => lifted os started H enc)

theorem proved : Rows.DiskNoneSaid :=
  over
#print axioms proved

end Go.Proofs.Ytbmbibepcnpngaa.diskNone
