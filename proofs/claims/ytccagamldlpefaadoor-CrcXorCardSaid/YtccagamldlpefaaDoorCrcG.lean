/-
  Flip, the document's Zeros and Flip, the statements' works.
-/
import Derived.Test.YtccagamldlpefaaDoorCrcF
import Derived.KernelRfl
import Derived.Lib.SlBytesConst
namespace Go.Proofs.YtccagamldlpefaaDoor
open Go.RowKit Go.Maps

theorem step_lit (w : World) (hT : Tab w) (b : UInt8) : Calls Tryd.prog 21 #[.int .u32 0, .int .u8 (b.toNat : Int)] w fun e w' => e = .returned (.int .u32 (uv (step 0#32 b))) ∧ w = w' :=
  step_any w hT 0#32 b
theorem noughts_sub (w : World) (hT : Tab w) (c : W32) (n k : Nat) (hn : n ≤ 65536) :
    Calls Tryd.prog 23 #[.int .u32 (uv c), .int .i64 ((n : Int) - 1 - k)] w fun e w' => e = .returned (.int .u32 (uv (run c (zeros (n - 1 - k))))) ∧ w = w' := by
  have h := noughts_any w hT c ((n : Int) - 1 - k) (by omega)
  rw [show ((n : Int) - 1 - k).toNat = n - 1 - k by omega] at h
  exact h

/-- What a flip is answered. -/
def flipBad (n k : Int) : Prop := 65536 < n ∨ k < 0 ∨ n ≤ k

set_option maxHeartbeats 400000 in
theorem flip_bad (w : World) (s n k x : Int) (h : flipBad n k) :
    Calls Tryd.prog 18 #[.int .u32 s, .int .i64 n, .int .i64 k, .int .u8 x] w fun e w' => e = .returned (.tuple #[.int .u32 0, .int .i64 2]) ∧ w = w' := by
  by_cases h1 : 65536 < n
  · clear h
    go_enter Tryd.func18, Tryd.ntmps18
    go_wp2_with fail
    go_ret2
    exact ⟨rfl, rfl⟩
  · by_cases h2 : k < 0
    · have h1' : n ≤ 65536 := by omega
      clear h
      go_enter Tryd.func18, Tryd.ntmps18
      go_wp2_with fail
      go_ret2
      exact ⟨rfl, rfl⟩
    · have h1' : n ≤ 65536 := by omega
      have h2' : 0 ≤ k := by omega
      have h3 : n ≤ k := by unfold flipBad at h; omega
      clear h
      go_enter Tryd.func18, Tryd.ntmps18
      go_wp2_with fail
      go_ret2
      exact ⟨rfl, rfl⟩

set_option maxHeartbeats 400000 in
theorem flip_ok (w : World) (hT : Tab w) (s : W32) (n k : Nat) (x : UInt8) (hk : k < n) (hn : n ≤ 65536) :
    Calls Tryd.prog 18 #[.int .u32 (uv s), .int .i64 n, .int .i64 k, .int .u8 (x.toNat : Int)] w fun e w' => e = .returned (.tuple #[.int .u32 (uv (s ^^^ delta n k x)), .int .i64 0]) ∧ w = w' := by
  have HS := Lib.hid (step_lit w hT x)
  have HN := Lib.hid (noughts_sub w hT (step 0#32 x) n k hn)
  have r1 := bits_xor s (delta n k x)
  have hd : run (step 0#32 x) (zeros (n - 1 - k)) = delta n k x := rfl
  rw [hd] at HN
  clear hT hd
  go_enter Tryd.func18, Tryd.ntmps18
  go_wp2_with (first
    | (go_at_call 21; refine HS.out.mono ?_; rintro e w' ⟨rfl, rfl⟩)
    | (go_at_call 23; refine HN.out.mono ?_; rintro e w' ⟨rfl, rfl⟩))
  go_ret2
  exact ⟨rfl, rfl⟩

theorem cellAny {w : World} {b : Nat} {cs : Array Value} {t : TypeId} {f : Nat × Nat} (h : w.heap[b]? = some (.cells cs t f)) (j : Nat) : w.cell? ⟨b, j, none⟩ = cs[j]? := by simp [World.cell?, h]
def nine : List UInt8 := [49, 50, 51, 52, 53, 54, 55, 56, 57]
theorem crc_nine : uv (crcMore 0#32 nine) = 3421780262 := by kernel_rfl
theorem crc_none : uv (crcMore 0#32 []) = 0 := by kernel_rfl
theorem sum_nine (w : World) (hT : Tab w) :
    Calls Tryd.prog 10 #[.slice (some ⟨w.heap.size, 0, none⟩) 9 9] (w.alloc (.cells #[.int .u8 49, .int .u8 50, .int .u8 51, .int .u8 52, .int .u8 53, .int .u8 54, .int .u8 55, .int .u8 56, .int .u8 57] 5 (9, 10))) fun e w' =>
      e = .returned (.int .u32 3421780262) ∧ (w.alloc (.cells #[.int .u8 49, .int .u8 50, .int .u8 51, .int .u8 52, .int .u8 53, .int .u8 54, .int .u8 55, .int .u8 56, .int .u8 57] 5 (9, 10))) = w' := by
  have hF : Fr (fun _ => False) w (w.alloc (.cells #[.int .u8 49, .int .u8 50, .int .u8 51, .int .u8 52, .int .u8 53, .int .u8 54, .int .u8 55, .int .u8 56, .int .u8 57] 5 (9, 10))) := (Fr.refl _ w).alloc _
  have h := sum_any _ (hT.fr hF) (some ⟨w.heap.size, 0, none⟩) 9 (w.heap.size + 1) nine (fun _ => ⟨_, 0, rfl, by omega, fun j x hj => by
    rw [cellAny (heap_alloc_new _ _), Nat.zero_add]
    have : (#[.int .u8 49, .int .u8 50, .int .u8 51, .int .u8 52, .int .u8 53, .int .u8 54, .int .u8 55, .int .u8 56, .int .u8 57] : Array Value) = (bs nine).toArray := rfl
    rw [this, List.getElem?_toArray, bs_get, hj]
    rfl⟩) (by decide)
  rw [crc_nine] at h
  exact h
theorem sum_nil (w : World) (hT : Tab w) : Calls Tryd.prog 10 #[.slice none 0 0] w fun e w' => e = .returned (.int .u32 0) ∧ w = w' := by
  have h := sum_any w hT none 0 0 [] (Rd.nil _ _ _) (by simp)
  rw [crc_none] at h
  exact h

set_option maxHeartbeats 400000 in
theorem works_any (w : World) (hT : Tab w) : Calls Tryd.prog 17 #[] w fun e w' => e = .returned (.bool true) ∧ Fr (fun _ => False) w w' := by
  have HS := Lib.hid (sum_nine w hT)
  have hF : Fr (fun _ => False) w (w.alloc (.cells #[.int .u8 49, .int .u8 50, .int .u8 51, .int .u8 52, .int .u8 53, .int .u8 54, .int .u8 55, .int .u8 56, .int .u8 57] 5 (9, 10))) := (Fr.refl _ w).alloc _
  have HN := Lib.hid (sum_nil _ (hT.fr hF))
  have HF := Lib.hid hF
  have kc := fun (w : World) (C : Array Value) (n c : Nat) => Lib.run_convert_bytes_const (P := Tryd.prog) w 22 5 C n c Tryd.underlying22 Tryd.underlying5
  clear hT hF
  go_enter Tryd.func17, Tryd.ntmps17
  go_wp2_with fail
  refine HS.out.mono ?_
  rintro e w' ⟨rfl, rfl⟩
  go_wp2_with fail
  refine HN.out.mono ?_
  rintro e w' ⟨rfl, rfl⟩
  go_wp2_with fail
  go_ret
  exact ⟨rfl, HF.out⟩

end Go.Proofs.YtccagamldlpefaaDoor
