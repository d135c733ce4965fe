/-
  Read, and the statements' helpers full and SameBytes.
-/
import Derived.Test.YtbmbibepcnpngaaNew
import Derived.Deep.LoopGhost
namespace Go.Proofs.Ytbmbibepcnpngaa
open Go.RowKit Go.Maps

theorem read_arg (w : World) {pb : Nat} {N : Int} {bv bt : Nat} {ops lim : Int} {dk : Bool} (hb : Blk w pb N bv bt ops lim dk) (hN : 0 < N) (at_ : Int) (h : at_ < 0 ∨ N ≤ at_) :
    Calls Try.prog 20 #[.pointer (some ⟨pb, 0, none⟩), .int .i64 at_] w fun e w' => e = .returned (.tuple #[.slice none 0 0, .int .i64 2]) ∧ w = w' := by
  have c0 := hb.c0
  have HM := Lib.hid (made_yes pb N w c0 hN)
  have HH := Lib.hid (has_any pb N at_ w c0)
  have hh : (decide (0 ≤ at_) && decide (at_ < N)) = false := by simp; omega
  rw [hh] at HH
  clear hb hh h
  go_enter Try.func20, Try.ntmps20
  go_wp2_with (first
    | (go_at_call 41; refine (HM.out).mono ?_; rintro e w' ⟨rfl, rfl⟩)
    | (go_at_call 42; refine (HH.out).mono ?_; rintro e w' ⟨rfl, rfl⟩))
  go_ret2
  exact ⟨rfl, rfl⟩

theorem read_power (w : World) {pb : Nat} {N : Int} {bv bt : Nat} {ops lim : Int} (hb : Blk w pb N bv bt ops lim true) (hN : 0 < N) (at_ : Int) (h0 : 0 ≤ at_) (h1 : at_ < N) :
    Calls Try.prog 20 #[.pointer (some ⟨pb, 0, none⟩), .int .i64 at_] w fun e w' => e = .returned (.tuple #[.slice none 0 0, .int .i64 10]) ∧ w = w' := by
  have c0 := hb.c0
  have c5 := hb.c5
  have HM := Lib.hid (made_yes pb N w c0 hN)
  have HH := Lib.hid (has_any pb N at_ w c0)
  have hh : (decide (0 ≤ at_) && decide (at_ < N)) = true := by simp [h0, h1]
  rw [hh] at HH
  clear hb hh
  go_enter Try.func20, Try.ntmps20
  go_wp2_with (first
    | (go_at_call 41; refine (HM.out).mono ?_; rintro e w' ⟨rfl, rfl⟩)
    | (go_at_call 42; refine (HH.out).mono ?_; rintro e w' ⟨rfl, rfl⟩))
  go_ret2
  exact ⟨rfl, rfl⟩

/-- A new slice of bytes in a block of its own. -/
def NewBytes (w : World) (l : List UInt8) (e : Ending) (w' : World) : Prop :=
  ∃ g cap, e = .returned (.tuple #[.slice (some ⟨g, 0, none⟩) l.length cap, .int .i64 0]) ∧ w.heap.size ≤ g ∧ (∃ t, w'.heap[g]? = some (.cells (secC l) t (0, 0))) ∧ Fr (fun _ => False) w w'

set_option maxRecDepth 100000 in
set_option maxHeartbeats 1000000 in
theorem read_ok (w : World) {pb bv bt nv nt c : Nat} {N ops lim : Int} {V : Int → Int → List UInt8} {T : Int → Int} (h : DiskAt w pb bv bt nv nt c N ops lim false V T) (hN : 0 < N) (at_ : Int) (h0 : 0 ≤ at_) (h1 : at_ < N) (hNi : N ≤ 4096) (hT : I64 (T at_)) :
    Calls Try.prog 20 #[.pointer (some ⟨pb, 0, none⟩), .int .i64 at_] w fun e w' => NewBytes w (V at_ (T at_)) e w' := by
  have c0 := h.blk.c0
  have c5 := h.blk.c5
  have HM := Lib.hid (made_yes pb N w c0 hN)
  have HH := Lib.hid (has_any pb N at_ w c0)
  have hh : (decide (0 ≤ at_) && decide (at_ < N)) = true := by simp [h0, h1]
  rw [hh] at HH
  have hs : I64 at_ := by constructor <;> omega
  have HL := Lib.hid (latest_any w h.blk h.sec h.turn at_ hs hT)
  have HLEN := Lib.hid (h.sec.look hs hT).2
  clear h hh
  go_enter Try.func20, Try.ntmps20
  go_wp2_with (first
    | (go_at_call 41; refine (HM.out).mono ?_; rintro e w' ⟨rfl, rfl⟩)
    | (go_at_call 42; refine (HH.out).mono ?_; rintro e w' ⟨rfl, rfl⟩)
    | (go_at_call 46; refine (HL.out).mono ?_; rintro e w2 ⟨rfl, _, hB2⟩; have HA := Lib.hid (heap_alloc_new w2 (.cells (secC noughts) 68)); have HB2 := Lib.hid hB2; clear hB2)
    | ((with_reducible refine wpList_allocArr ?_ ?_ ?_); (exact rfl); (exact rfl))
    | ((with_reducible refine wpList_storeArr ?_ (.tmp 6) (.tmp 20) ?_ w2.heap.size (V at_ (T at_)) noughts HLEN.out noughts_length ?_ ?_ HA.out ?_); (exact rfl); (exact rfl); (exact rfl); (exact rfl); intro w3 h3 hF3 hs3; have H3 := Lib.hid h3; have HF3 := Lib.hid hF3; clear h3 hF3 hs3)
    | ((with_reducible refine wpList_sliceArr ?_ (.tmp 6) ?_ w2.heap.size ?_ ?_); (exact rfl); (exact rfl); (exact rfl)))
  go_ret2
  refine ⟨w2.heap.size, 256, by rw [HLEN.out]; rfl, HB2.out.size, ⟨_, H3.out⟩, ?_⟩
  have hF2 : Fr (fun _ => False) w w2 := ⟨HB2.out.os, HB2.out.tape, HB2.out.output, HB2.out.size, fun i hi _ => HB2.out.block i hi⟩
  exact (((hF2.alloc _).mono (S := fun i => i = w2.heap.size) (fun _ _ e => e.elim)).trans HF3.out (fun _ _ e => e)).mono (fun i hi e => by have := HB2.out.size; omega)

end Go.Proofs.Ytbmbibepcnpngaa
