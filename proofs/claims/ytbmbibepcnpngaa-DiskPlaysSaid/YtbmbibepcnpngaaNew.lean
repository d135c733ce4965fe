/-
  New, Clone, Read, and the statements' helper full.
-/
import Derived.Test.YtbmbibepcnpngaaLook
import Derived.Test.YtbmbibepcnpngaaSmall
namespace Go.Proofs.Ytbmbibepcnpngaa
open Go.RowKit Go.Maps

/-- A disk: its block, and its two maps. -/
structure DiskAt (w : World) (pb bv bt nv nt c : Nat) (N ops lim : Int) (dk : Bool) (V : Int → Int → List UInt8) (T : Int → Int) : Prop where
  blk : Blk w pb N bv bt ops lim dk
  sec : SecMap w bv nv V
  turn : TurnMap w bt nt T c
  ne : bv ≠ bt

theorem DiskAt.kept {w w' : World} {pb bv bt nv nt c : Nat} {N ops lim : Int} {dk : Bool} {V : Int → Int → List UInt8} {T : Int → Int} (h : DiskAt w pb bv bt nv nt c N ops lim dk V T) {S : Nat → Prop} (hF : Fr S w w') (h1 : ¬ S pb) (h2 : ¬ S bv) (h3 : ¬ S bt) : DiskAt w' pb bv bt nv nt c N ops lim dk V T :=
  ⟨h.blk.kept hF h1, h.sec.kept hF h2, h.turn.kept hF h3, h.ne⟩

/-- What New leaves. -/
def NewPost (w : World) (N : Int) (w' : World) : Prop :=
  DiskAt w' (w.heap.size + 2) w.heap.size (w.heap.size + 1) 0 0 0 N 0 (-1) false (fun _ _ => noughts) (fun _ => 0) ∧ Fr (fun _ => False) w w' ∧ w'.heap.size = w.heap.size + 3

theorem new_end (w : World) (N : Int) : NewPost w N (((w.alloc (.map #[] 0)).alloc (.map #[] 0)).alloc (.cells (dcells N w.heap.size (w.heap.size + 1) 0 (-1) false) 65)) := by
  have h1 := SecMap.made w
  have h2 := TurnMap.made (w.alloc (.map #[] 0))
  have e1 : (w.alloc (.map #[] 0)).heap.size = w.heap.size + 1 := by simp
  rw [e1] at h2
  have e2 : ((w.alloc (.map #[] 0)).alloc (.map #[] 0)).heap.size = w.heap.size + 2 := by simp
  have h3 := heap_alloc_new ((w.alloc (.map #[] 0)).alloc (.map #[] 0)) (.cells (dcells N w.heap.size (w.heap.size + 1) 0 (-1) false) 65)
  rw [e2] at h3
  have F2 : Fr (fun _ => False) (w.alloc (.map #[] 0)) ((w.alloc (.map #[] 0)).alloc (.map #[] 0)) := (Fr.refl _ _).alloc _
  have F3 : Fr (fun _ => False) ((w.alloc (.map #[] 0)).alloc (.map #[] 0)) (((w.alloc (.map #[] 0)).alloc (.map #[] 0)).alloc (.cells (dcells N w.heap.size (w.heap.size + 1) 0 (-1) false) 65)) := (Fr.refl _ _).alloc _
  exact ⟨⟨h3, (h1.kept F2 id).kept F3 id, h2.kept F3 id, by omega⟩, (((Fr.refl _ w).alloc _).alloc _).alloc _, by simp⟩

set_option maxHeartbeats 400000 in
theorem new_ok (w : World) (N : Int) (h1 : 1 ≤ N) (h2 : N ≤ 4096) :
    Calls Try.prog 9 #[.int .i64 N] w fun e w' => e = .returned (.tuple #[.pointer (some ⟨w.heap.size + 2, 0, none⟩), .int .i64 0]) ∧ NewPost w N w' := by
  have HE := Lib.hid (new_end w N)
  have hmm := @run_makeMap Try.prog
  go_enter Try.func9, Try.ntmps9
  go_wp2
  go_ret2
  exact ⟨rfl, HE.out⟩

set_option maxHeartbeats 400000 in
theorem new_no (w : World) (N : Int) (h : N < 1 ∨ 4096 < N) :
    Calls Try.prog 9 #[.int .i64 N] w fun e w' => e = .returned (.tuple #[.pointer none, .int .i64 2]) ∧ w = w' := by
  by_cases h1 : N < 1
  · clear h
    go_enter Try.func9, Try.ntmps9
    go_wp2
    go_ret2
    exact ⟨rfl, rfl⟩
  · have h2 : 4096 < N := by omega
    clear h
    go_enter Try.func9, Try.ntmps9
    go_wp2
    go_ret2
    exact ⟨rfl, rfl⟩

end Go.Proofs.Ytbmbibepcnpngaa
