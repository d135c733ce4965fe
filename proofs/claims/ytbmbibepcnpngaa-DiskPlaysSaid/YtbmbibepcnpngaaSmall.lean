/-
  Sectors, Ops, Pending, Limit.
-/
import Derived.Test.YtbmbibepcnpngaaMap
namespace Go.Proofs.Ytbmbibepcnpngaa
open Go.RowKit Go.Maps

section
variable (w : World) {pb : Nat} {N : Int} {bv bt nt : Nat} {ops lim : Int} {dk : Bool} {T : Int → Int} {c : Nat}

set_option maxHeartbeats 400000 in
theorem sectors_any (hb : Blk w pb N bv bt ops lim dk) (hN : 0 < N) : Calls Try.prog 32 #[.pointer (some ⟨pb, 0, none⟩)] w fun e w' => e = .returned (.int .i64 N) ∧ w = w' := by
  have c0 := hb.c0
  have hm := made_yes pb N w c0 hN
  have HM := Lib.hid hm
  clear hm hb
  go_enter Try.func32, Try.ntmps32
  go_wp2_with (go_at_call 41; refine (HM.out).mono ?_; rintro e w' ⟨rfl, rfl⟩)
  go_ret
  exact ⟨rfl, rfl⟩

set_option maxHeartbeats 400000 in
theorem ops_any (hb : Blk w pb N bv bt ops lim dk) (hN : 0 < N) : Calls Try.prog 31 #[.pointer (some ⟨pb, 0, none⟩)] w fun e w' => e = .returned (.int .i64 ops) ∧ w = w' := by
  have c0 := hb.c0
  have c3 := hb.c3
  have hm := made_yes pb N w c0 hN
  have HM := Lib.hid hm
  clear hm hb
  go_enter Try.func31, Try.ntmps31
  go_wp2_with (go_at_call 41; refine (HM.out).mono ?_; rintro e w' ⟨rfl, rfl⟩)
  go_ret
  exact ⟨rfl, rfl⟩

set_option maxHeartbeats 400000 in
theorem pending_any (hb : Blk w pb N bv bt ops lim dk) (ht : TurnMap w bt nt T c) (hN : 0 < N) : Calls Try.prog 29 #[.pointer (some ⟨pb, 0, none⟩)] w fun e w' => e = .returned (.int .i64 c) ∧ w = w' := by
  have c0 := hb.c0
  have c2 := hb.c2
  have hm := made_yes pb N w c0 hN
  have HM := Lib.hid hm
  have hl := fun ty => ht.len ty
  clear hm hb
  go_enter Try.func29, Try.ntmps29
  go_wp2_with (go_at_call 41; refine (HM.out).mono ?_; rintro e w' ⟨rfl, rfl⟩)
  go_ret
  exact ⟨rfl, rfl⟩

set_option maxHeartbeats 400000 in
theorem limit_any (hb : Blk w pb N bv bt ops lim dk) (hN : 0 < N) (n : Int) : Calls Try.prog 23 #[.pointer (some ⟨pb, 0, none⟩), .int .i64 n] w fun e w' => e = .returned (.tuple #[]) ∧ Blk w' pb N bv bt ops (max n (-1)) dk ∧ Fr (· = pb) w w' ∧ w'.heap.size = w.heap.size := by
  have c0 := hb.c0
  have c4 := hb.c4
  have f4 := hb.free 4
  have hm := made_yes pb N w c0 hN
  have h1 := hb.set4 (max n (-1))
  have F1 := (Fr.refl (· = pb) w).setCell (p := ⟨pb, 4, none⟩) (Or.inl rfl) (.int .i64 (max n (-1)))
  have HM := Lib.hid hm
  have H1 := Lib.hid h1
  have HF := Lib.hid F1
  clear hm hb h1 F1
  go_enter Try.func23, Try.ntmps23
  go_wp2_with (go_at_call 41; refine (HM.out).mono ?_; rintro e w' ⟨rfl, rfl⟩)
  · have e1 : max n (-1) = -1 := by omega
    have h1 := H1.out
    have hf := HF.out
    rw [e1] at h1 hf
    go_end0
    exact ⟨rfl, by rw [e1]; exact h1, hf, by simp⟩
  · have e1 : max n (-1) = n := by omega
    have h1 := H1.out
    have hf := HF.out
    rw [e1] at h1 hf
    go_end0
    exact ⟨rfl, by rw [e1]; exact h1, hf, by simp⟩
end

end Go.Proofs.Ytbmbibepcnpngaa
