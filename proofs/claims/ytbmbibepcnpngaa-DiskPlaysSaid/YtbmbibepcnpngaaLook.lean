/-
  latest, sure: what a sector reads as.
-/
import Derived.Test.YtbmbibepcnpngaaMap
import Derived.Outline
namespace Go.Proofs.Ytbmbibepcnpngaa
open Go.RowKit Go.Maps

set_option maxRecDepth 100000 in
set_option maxHeartbeats 400000 in
theorem latest_any (w : World) {pb : Nat} {N : Int} {bv bt nv nt : Nat} {ops lim : Int} {dk : Bool} {V : Int → Int → List UInt8} {T : Int → Int} {c : Nat} (hb : Blk w pb N bv bt ops lim dk) (hv : SecMap w bv nv V) (ht : TurnMap w bt nt T c) (s : Int) (hs : I64 s) (hT : I64 (T s)) :
    Calls Try.prog 46 #[.pointer (some ⟨pb, 0, none⟩), .int .i64 s] w fun e w' => e = .returned (secV (V s (T s))) ∧ (V s (T s)).length = 256 ∧ Below w.heap.size w w' := by
  have hlt := hb.lt
  have F1 : Fr (fun _ => False) w ((w.alloc (.cells (secC noughts) 68)).drew) := ((Fr.refl _ w).alloc _).drew
  obtain ⟨w1, hw1⟩ : ∃ w1, w1 = ((w.alloc (.cells (secC noughts) 68)).drew) := ⟨_, rfl⟩
  rw [← hw1] at F1
  have HW := Lib.hid hw1
  have hb1 := hb.kept F1 id
  have hv1 := hv.kept F1 id
  have ht1 := ht.kept F1 id
  have c1 := hb1.c1
  have c2 := hb1.c2
  have hl := (hv.look hs hT).2
  have HL := Lib.hid hl
  have HV := Lib.hid hv1
  have HT := Lib.hid ht1
  have HF := Lib.hid F1
  have HR : Hid (w1.heap[w.heap.size]? = some (.cells (secC noughts) 68 (0, 0))) := by rw [hw1]; exact heap_alloc_new _ _
  clear hl hw1 F1 hv1 ht1 hv ht hb hb1
  go_enter Try.func46, Try.ntmps46
  go_wp2_with (first
    | ((with_reducible refine wpList_allocArr ?_ ?_ ?_); (exact rfl); (exact rfl)))
  refine region_tail 13 (by kernel_rfl) (by kernel_rfl) w1 HW.out ?_
  simp only [List.take_succ_cons, List.take_zero, List.drop_succ_cons, List.drop_zero]
  repeat (first
    | ((with_reducible refine still_lookTurn ?_ (.tmp 13) (.tmp 14) ?_ bt nt T c s HT.out hs ?_ ?_ ?_); (exact rfl); (exact rfl); (exact rfl); (exact rfl))
    | ((with_reducible refine still_lookSec ?_ (.tmp 8) (.tmp 16) ?_ bv nv V s (T s) HV.out hs hT ?_ ?_ ?_); (exact rfl); (exact rfl); (exact rfl); (exact rfl))
    | still_step)
  refine wpStill_nil ?_
  go_wp2_with (first
    | ((with_reducible refine wpList_storeArr ?_ (.tmp 4) (.tmp 17) ?_ w.heap.size (V s (T s)) noughts HL.out noughts_length ?_ ?_ HR.out ?_); (exact rfl); (exact rfl); (exact rfl); (exact rfl); intro w3 h3 hF3 hs3; have H3 := Lib.hid h3; have HF3 := Lib.hid hF3; clear h3 hF3 hs3))
  go_frame
  refine bodyPost_ret (v := secV (V s (T s))) (results_arr rfl _ _ w.heap.size (V s (T s)) HL.out rfl H3.out) rfl ⟨rfl, HL.out, ?_⟩
  exact (HF.out.below (Nat.le_refl _) (fun _ _ e => e.elim)).trans (HF3.out.below HF.out.size (fun i hi e => by omega))

theorem I64.zero : I64 0 := by constructor <;> omega

set_option maxRecDepth 100000 in
set_option maxHeartbeats 400000 in
theorem sure_any (w : World) {pb : Nat} {N : Int} {bv bt nv : Nat} {ops lim : Int} {dk : Bool} {V : Int → Int → List UInt8} (hb : Blk w pb N bv bt ops lim dk) (hv : SecMap w bv nv V) (s : Int) (hs : I64 s) :
    Calls Try.prog 52 #[.pointer (some ⟨pb, 0, none⟩), .int .i64 s] w fun e w' => e = .returned (secV (V s 0)) ∧ (V s 0).length = 256 ∧ Below w.heap.size w w' := by
  have F1 : Fr (fun _ => False) w (w.alloc (.cells (secC noughts) 68)) := (Fr.refl _ w).alloc _
  have HR : Hid ((w.alloc (.cells (secC noughts) 68)).heap[w.heap.size]? = some (.cells (secC noughts) 68 (0, 0))) := heap_alloc_new _ _
  have hb1 := hb.kept F1 id
  have hv1 := hv.kept F1 id
  have c1 := hb1.c1
  have hl := (hv.look hs I64.zero).2
  have HL := Lib.hid hl
  have HV := Lib.hid hv1
  have HF := Lib.hid F1
  clear hl F1 hv1 hv hb hb1
  go_enter Try.func52, Try.ntmps52
  go_wp2_with (first
    | ((with_reducible refine wpList_allocArr ?_ ?_ ?_); (exact rfl); (exact rfl))
    | ((with_reducible refine wpList_lookSec ?_ (.tmp 8) (.tmp 10) ?_ bv nv V s 0 HV.out hs I64.zero ?_ ?_ ?_); (exact rfl); (exact rfl); (exact rfl); (exact rfl); intro _)
    | ((with_reducible refine wpList_storeArr ?_ (.tmp 4) (.tmp 11) ?_ w.heap.size (V s 0) noughts HL.out noughts_length ?_ ?_ HR.out ?_); (exact rfl); (exact rfl); (exact rfl); (exact rfl); intro w3 h3 hF3 hs3; have H3 := Lib.hid h3; have HF3 := Lib.hid hF3; clear h3 hF3 hs3))
  go_frame
  refine bodyPost_ret (v := secV (V s 0)) (results_arr rfl _ _ w.heap.size (V s 0) HL.out rfl H3.out) rfl ⟨rfl, HL.out, ?_⟩
  exact (HF.out.below (Nat.le_refl _) (fun _ _ e => e.elim)).trans (HF3.out.below HF.out.size (fun i hi e => by omega))

end Go.Proofs.Ytbmbibepcnpngaa
