/-
  The program's words in memory; right, mix.
-/
import Derived.Test.YtoikgnmhnlcbhaaDoorDhM
import Derived.BigQuiet
import Derived.Deep.QuietTactic
import Derived.Deep.RegionHeld3
namespace Go.Proofs.YtoikgnmhnlcbhaaDoor.dg
set_option maxRecDepth 100000
open Go.RowKit Go.Maps
set_option maxRecDepth 100000

/-! ### sixteen words -/
/-- At block g lie these sixteen words. -/
structure WC (w : World) (g : Nat) (v : List W) : Prop where
  blk : w.heap[g]? = some (.cells (ws v).toArray 59 (0, 0))
  len : v.length = 16
theorem ws_at {l : List W} {k : Nat} (h : k < l.length) : (ws l)[k]? = some (.int .u32 (uw (at_ l k))) := by rw [ws_get, at_get h]; rfl
theorem WC.cell {w : World} {g : Nat} {v : List W} (h : WC w g v) (k : Nat) (hk : k < 16) : w.cell? ⟨g, k, none⟩ = some (.int .u32 (uw (at_ v k))) := by
  rw [cellAt h.blk, List.getElem?_toArray, ws_at (by have := h.len; omega)]
theorem WC.free {w : World} {g : Nat} {v : List W} (h : WC w g v) (k : Nat) : w.frozen? ⟨g, k, none⟩ = false := freeAt h.blk k
theorem WC.lt {w : World} {g : Nat} {v : List W} (h : WC w g v) : g < w.heap.size := (Array.getElem?_eq_some_iff.1 h.blk).1
theorem WC.set {w : World} {g : Nat} {v : List W} (h : WC w g v) (k : Nat) (c : W) : WC (w.setCell ⟨g, k, none⟩ (.int .u32 (uw c))) g (v.set k c) := by
  have h1 := heap_setCell_same _ _ k _ _ (.int .u32 (uw c)) h.blk
  refine ⟨?_, (List.length_set).trans h.len⟩
  rw [h1]
  congr 2
  rw [← ws_set, List.setIfInBounds_toArray]
theorem WC.keep {w w' : World} {S : Nat → Prop} {g : Nat} {v : List W} (h : WC w g v) (hF : Fr S w w') (hg : ¬ S g) : WC w' g v := ⟨(hF.block g h.lt hg).trans h.blk, h.len⟩

/-! ### right -/
set_option maxHeartbeats 2000000 in
theorem protate (w : World) (x : W) (n : Nat) (h1 : 1 ≤ n) (h2 : n ≤ 31) : Calls Tryd.prog 43 #[.int .u32 (uw x), .int .i64 (-(n : Int))] w fun e w' => e = .returned (.int .u32 (uw (rt x n))) ∧ w = w' := by
  have g1 := uw_shr x n
  have g2 := uw_shl x (32 - n)
  have g3 := uw_or (x <<< (32 - n)) (x >>> n)
  have hc : IntKind.u64.wrap (-(n : Int)) = 18446744073709551616 - (n : Int) := by rw [IntKind.wrap_u64]; omega
  have ha : bits .and .u64 (18446744073709551616 - (n : Int)) 31 = ((32 - n : Nat) : Int) := by
    rcases (show n = 1 ∨ n = 2 ∨ n = 3 ∨ n = 4 ∨ n = 5 ∨ n = 6 ∨ n = 7 ∨ n = 8 ∨ n = 9 ∨ n = 10 ∨ n = 11 ∨ n = 12 ∨ n = 13 ∨ n = 14 ∨ n = 15 ∨ n = 16 ∨ n = 17 ∨ n = 18 ∨ n = 19 ∨ n = 20 ∨ n = 21 ∨ n = 22 ∨ n = 23 ∨ n = 24 ∨ n = 25 ∨ n = 26 ∨ n = 27 ∨ n = 28 ∨ n = 29 ∨ n = 30 ∨ n = 31 by omega) with rfl | rfl | rfl | rfl | rfl | rfl | rfl | rfl | rfl | rfl | rfl | rfl | rfl | rfl | rfl | rfl | rfl | rfl | rfl | rfl | rfl | rfl | rfl | rfl | rfl | rfl | rfl | rfl | rfl | rfl | rfl <;> decide +kernel
  have hrt : rt x n = x <<< (32 - n) ||| x >>> n := by unfold rt; exact BitVec.or_comm _ _
  obtain ⟨m, hm⟩ : ∃ m, m = 32 - n := ⟨_, rfl⟩
  have hmn : (32 : Int) - (m : Int) = (n : Int) := by omega
  have hm32 : (m : Int) < 32 := by omega
  rw [← hm] at g2 g3 ha hrt
  rw [hrt]
  have hlo := uw_lo x
  have hhi := uw_hi x
  clear hm hrt
  go_enter Tryd.func43, Tryd.ntmps43
  go_wp2_with fail
  go_ret
  exact ⟨rfl, rfl⟩
set_option maxHeartbeats 2000000 in
theorem pright (w : World) (x : W) (n : Nat) (h1 : 1 ≤ n) (h2 : n ≤ 31) : Calls Tryd.prog 42 #[.int .u32 (uw x), .int .i64 (n : Int)] w fun e w' => e = .returned (.int .u32 (uw (rt x n))) ∧ w = w' := by
  have HR := Lib.hid (protate w x n h1 h2)
  go_enter Tryd.func42, Tryd.ntmps42
  go_wp2_with (go_at_call 43; refine HR.out.mono ?_; rintro e w' ⟨rfl, rfl⟩)
  go_ret
  exact ⟨rfl, rfl⟩

/-! ### mix -/
/-- Four numbers as one value. -/
abbrev foV (a b c d : Nat) : Value := .agg #[.int .i64 (a : Int), .int .i64 (b : Int), .int .i64 (c : Int), .int .i64 (d : Int)]
theorem cell_far {w : World} {f g k j : Nat} {v : Value} (h : w.cell? ⟨f, k, none⟩ = some v) (hne : g ≠ f) (x : Value) : (w.setCell ⟨g, j, none⟩ x).cell? ⟨f, k, none⟩ = some v :=
  (World.cell?_of_block (w := w) (w' := w.setCell ⟨g, j, none⟩ x) (((Fr.refl (· = g) w).setCell (p := ⟨g, j, none⟩) (Or.inl rfl) x).block f (block_lt_of_cell h) (fun e => hne e.symm))).trans h
set_option maxHeartbeats 16000000 in
theorem pmix (w : World) (g : Nat) (v : List W) (HV : WC w g v) (a b c d : Nat) (ha : a < 16) (hb : b < 16) (hc : c < 16) (hd : d < 16) (n1 : a ≠ b) (n2 : a ≠ c) (n3 : a ≠ d) (n4 : b ≠ c) (n5 : b ≠ d) (n6 : c ≠ d) (x y : W) :
    Calls Tryd.prog 41 #[.pointer (some ⟨g, 0, none⟩), foV a b c d, .int .u32 (uw x), .int .u32 (uw y)] w fun e w' => e = .returned (.tuple #[]) ∧ WC w' g (mixV v a b c d x y) ∧ Fr (· = g) w w' := by
  obtain ⟨a0, e0⟩ : ∃ u, u = at_ v a := ⟨_, rfl⟩
  obtain ⟨b0, e1⟩ : ∃ u, u = at_ v b := ⟨_, rfl⟩
  obtain ⟨c0, e2⟩ : ∃ u, u = at_ v c := ⟨_, rfl⟩
  obtain ⟨d0, e3⟩ : ∃ u, u = at_ v d := ⟨_, rfl⟩
  obtain ⟨a1, h1⟩ : ∃ u, u = a0 + (b0 + x) := ⟨_, rfl⟩
  obtain ⟨d1, h2⟩ : ∃ u, u = rt (d0 ^^^ a1) 16 := ⟨_, rfl⟩
  obtain ⟨c1, h3⟩ : ∃ u, u = c0 + d1 := ⟨_, rfl⟩
  obtain ⟨b1, h4⟩ : ∃ u, u = rt (b0 ^^^ c1) 12 := ⟨_, rfl⟩
  obtain ⟨a2, h5⟩ : ∃ u, u = a1 + (b1 + y) := ⟨_, rfl⟩
  obtain ⟨d2, h6⟩ : ∃ u, u = rt (d1 ^^^ a2) 8 := ⟨_, rfl⟩
  obtain ⟨c2, h7⟩ : ∃ u, u = c1 + d2 := ⟨_, rfl⟩
  obtain ⟨b2, h8⟩ : ∃ u, u = rt (b1 ^^^ c2) 7 := ⟨_, rfl⟩
  have hmix := mix_end HV.len ha hb hc hd n1 n2 n3 n4 n5 n6 (x := x) (y := y) (by rw [h1, e0, e1]) (by rw [h2, e3]) (by rw [h3, e2]) (by rw [h4, e1]) h5 h6 h7 h8
  obtain ⟨W1, hW1⟩ : ∃ W, W = w.alloc (.cells #[.int .i64 (a : Int), .int .i64 (b : Int), .int .i64 (c : Int), .int .i64 (d : Int)] 66) := ⟨_, rfl⟩
  obtain ⟨f, hf⟩ : ∃ f, f = w.heap.size := ⟨_, rfl⟩
  have hF1 : Fr (fun _ => False) w W1 := by rw [hW1]; exact (Fr.refl _ _).alloc _
  have hn : W1.heap[f]? = some (.cells #[.int .i64 (a : Int), .int .i64 (b : Int), .int .i64 (c : Int), .int .i64 (d : Int)] 66 (0, 0)) := by rw [hW1, hf]; exact heap_alloc_new _ _
  have HV1 : WC W1 g v := HV.keep hF1 id
  have hgf : g ≠ f := by have := HV.lt; omega
  have m0 : W1.cell? ⟨f, 0, none⟩ = some (.int .i64 (a : Int)) := by rw [cellAt hn]; rfl
  have m1 : W1.cell? ⟨f, 1, none⟩ = some (.int .i64 (b : Int)) := by rw [cellAt hn]; rfl
  have m2 : W1.cell? ⟨f, 2, none⟩ = some (.int .i64 (c : Int)) := by rw [cellAt hn]; rfl
  have m3 : W1.cell? ⟨f, 3, none⟩ = some (.int .i64 (d : Int)) := by rw [cellAt hn]; rfl
  have k0 := HV1.cell a ha
  have k1 := HV1.cell b hb
  have k2 := HV1.cell c hc
  have k3 := HV1.cell d hd
  rw [← e0] at k0
  rw [← e1] at k1
  rw [← e2] at k2
  rw [← e3] at k3
  have s1 := uw_sum b0 x
  have s2 := uw_sum a0 (b0 + x)
  rw [← h1] at s2
  have s3 := uw_xor d0 a1
  have s4 := uw_sum c0 d1
  rw [← h3] at s4
  have s5 := uw_xor b0 c1
  have s6 := uw_sum b1 y
  have s7 := uw_sum a1 (b1 + y)
  rw [← h5] at s7
  have s8 := uw_xor d1 a2
  have s9 := uw_sum c1 d2
  rw [← h7] at s9
  have s10 := uw_xor b1 c2
  have R1 := Lib.hid (fun w => show Calls Tryd.prog 42 #[.int .u32 (uw (d0 ^^^ a1)), .int .i64 16] w fun e w' => e = .returned (.int .u32 (uw (rt (d0 ^^^ a1) 16))) ∧ w = w' from pright w (d0 ^^^ a1) 16 (by decide) (by decide))
  have R2 := Lib.hid (fun w => show Calls Tryd.prog 42 #[.int .u32 (uw (b0 ^^^ c1)), .int .i64 12] w fun e w' => e = .returned (.int .u32 (uw (rt (b0 ^^^ c1) 12))) ∧ w = w' from pright w (b0 ^^^ c1) 12 (by decide) (by decide))
  have R3 := Lib.hid (fun w => show Calls Tryd.prog 42 #[.int .u32 (uw (d1 ^^^ a2)), .int .i64 8] w fun e w' => e = .returned (.int .u32 (uw (rt (d1 ^^^ a2) 8))) ∧ w = w' from pright w (d1 ^^^ a2) 8 (by decide) (by decide))
  have R4 := Lib.hid (fun w => show Calls Tryd.prog 42 #[.int .u32 (uw (b1 ^^^ c2)), .int .i64 7] w fun e w' => e = .returned (.int .u32 (uw (rt (b1 ^^^ c2) 7))) ∧ w = w' from pright w (b1 ^^^ c2) 7 (by decide) (by decide))
  rw [← h2] at R1
  rw [← h4] at R2
  rw [← h6] at R3
  rw [← h8] at R4
  rw [← hmix]
  have HV1 := Lib.hid HV1
  have hF1 := Lib.hid hF1
  clear e0 e1 e2 e3 h1 h2 h3 h4 h5 h6 h7 h8 hmix hn HV
  have i0 : (a : Int) < 16 := by omega
  have i1 : (b : Int) < 16 := by omega
  have i2 : (c : Int) < 16 := by omega
  have i3 : (d : Int) < 16 := by omega
  go_enter Tryd.func41, Tryd.ntmps41
  go_wp2_with fail
  rw [← hf, ← hW1]
  clear hf hW1
  go_quiet (fail)
  clear k0 k1 k2 k3
  go_wp2_with (go_at_call 42; first
    | (with_reducible refine (R1.out _).mono ?_; rintro e w' ⟨rfl, rfl⟩)
    | (with_reducible refine (R2.out _).mono ?_; rintro e w' ⟨rfl, rfl⟩)
    | (with_reducible refine (R3.out _).mono ?_; rintro e w' ⟨rfl, rfl⟩)
    | (with_reducible refine (R4.out _).mono ?_; rintro e w' ⟨rfl, rfl⟩))
  obtain ⟨W2, hW2⟩ : ∃ W, W = W1.drewN nq := ⟨_, rfl⟩
  have HV2 := Lib.hid (show WC W2 g v ∧ Fr (fun _ => False) w W2 from by rw [hW2]; exact ⟨⟨HV1.out.blk, HV1.out.len⟩, ⟨hF1.out.1, hF1.out.2, hF1.out.3, hF1.out.4, hF1.out.5⟩⟩)
  have m0 : W2.cell? ⟨f, 0, none⟩ = some (.int .i64 (a : Int)) := by rw [hW2]; exact m0
  have m1 : W2.cell? ⟨f, 1, none⟩ = some (.int .i64 (b : Int)) := by rw [hW2]; exact m1
  have m2 : W2.cell? ⟨f, 2, none⟩ = some (.int .i64 (c : Int)) := by rw [hW2]; exact m2
  have m3 : W2.cell? ⟨f, 3, none⟩ = some (.int .i64 (d : Int)) := by rw [hW2]; exact m3
  rw [← hW2]
  have HVa := Lib.hid (HV2.out.1.set a a2)
  have HVb := Lib.hid (HVa.out.set b b2)
  have HVc := Lib.hid (HVb.out.set c c2)
  have HVd := Lib.hid (HVc.out.set d d2)
  have p0 := HV2.out.1.free a
  have p1 := HVa.out.free b
  have p2 := HVb.out.free c
  have p3 := HVc.out.free d
  have k0 := HV2.out.1.cell a ha
  have k1 := HVa.out.cell b hb
  have k2 := HVb.out.cell c hc
  have k3 := HVc.out.cell d hd
  clear hW2 HV1 hF1 s1 s2 s3 s4 s5 s6 s7 s8 s9 s10 R1 R2 R3 R4
  -- BEGIN
  refine wp_region_held_drew (S := (fun w' => w'.cell? ⟨f, 0, none⟩ = some (.int .i64 (a : Int)) ∧ w'.cell? ⟨f, 1, none⟩ = some (.int .i64 (b : Int)) ∧ w'.cell? ⟨f, 2, none⟩ = some (.int .i64 (c : Int)) ∧ w'.cell? ⟨f, 3, none⟩ = some (.int .i64 (d : Int)))) (by kernel_rfl) (⟨m0, m1, m2, m3⟩) (fun hHeld => ?_)
  refine wpAnyH_take (i := 0) (v := ?_) (by simp only [List.getElem?_toArray, List.getElem?_cons_zero]; rfl) (by kernel_rfl) (by kernel_rfl) (by kernel_rfl) (by intro _ _ _ h; exact h) (Or.inl ⟨by rfl, ?_⟩) hHeld ?_
  rotate_left 1
  · intro wx hSw
    first
      | (go_simp; done)
      | (go_simp; with_reducible rfl)
      | with_reducible rfl
  simp only [Act.put, List.setIfInBounds_toArray, List.set_cons_zero, List.set_cons_succ]
  refine wpAnyH_take (i := 1) (v := ?_) (by simp only [List.getElem?_toArray, List.getElem?_cons_succ, List.getElem?_cons_zero]; rfl) (by kernel_rfl) (by kernel_rfl) (by kernel_rfl) (by intro _ _ _ h; exact h) (Or.inl ⟨by rfl, ?_⟩) hHeld ?_
  rotate_left 1
  · intro wx hSw
    first
      | (go_simp; done)
      | (go_simp; with_reducible rfl)
      | with_reducible rfl
  simp only [Act.put, List.setIfInBounds_toArray, List.set_cons_zero, List.set_cons_succ]
  refine wpAnyH_take (i := 2) (v := ?_) (by simp only [List.getElem?_toArray, List.getElem?_cons_succ, List.getElem?_cons_zero]; rfl) (by kernel_rfl) (by kernel_rfl) (by kernel_rfl) (by intro _ _ _ h; exact h) (Or.inl ⟨by rfl, ?_⟩) hHeld ?_
  rotate_left 1
  · intro wx hSw
    first
      | (go_simp; done)
      | (go_simp; with_reducible rfl)
      | with_reducible rfl
  simp only [Act.put, List.setIfInBounds_toArray, List.set_cons_zero, List.set_cons_succ]
  refine wpAnyH_take (i := 3) (v := ?_) (by simp only [List.getElem?_toArray, List.getElem?_cons_succ, List.getElem?_cons_zero]; rfl) (by kernel_rfl) (by kernel_rfl) (by kernel_rfl) (by intro _ _ _ h; exact h) (Or.inl ⟨by rfl, ?_⟩) hHeld ?_
  rotate_left 1
  · intro wx hSw
    first
      | (go_simp; done)
      | (go_simp; with_reducible rfl)
      | with_reducible rfl
  simp only [Act.put, List.setIfInBounds_toArray, List.set_cons_zero, List.set_cons_succ]
  refine wpAnyH_take (i := 4) (v := ?_) (by simp only [List.getElem?_toArray, List.getElem?_cons_succ, List.getElem?_cons_zero]; rfl) (by kernel_rfl) (by kernel_rfl) (by kernel_rfl) (by intro _ _ _ h; exact h) (Or.inl ⟨by rfl, ?_⟩) hHeld ?_
  rotate_left 1
  · intro wx hSw
    first
      | (go_simp; done)
      | (go_simp; with_reducible rfl)
      | with_reducible rfl
  simp only [Act.put, List.setIfInBounds_toArray, List.set_cons_zero, List.set_cons_succ]
  refine wpAnyH_take (i := 5) (v := ?_) (by simp only [List.getElem?_toArray, List.getElem?_cons_succ, List.getElem?_cons_zero]; rfl) (by kernel_rfl) (by kernel_rfl) (by kernel_rfl) (by intro _ _ _ h; exact h) (Or.inl ⟨by rfl, ?_⟩) hHeld ?_
  rotate_left 1
  · intro wx hSw
    first
      | (go_simp; done)
      | (go_simp; with_reducible rfl)
      | with_reducible rfl
  simp only [Act.put, List.setIfInBounds_toArray, List.set_cons_zero, List.set_cons_succ]
  refine wpAnyH_take (i := 6) (v := ?_) (by simp only [List.getElem?_toArray, List.getElem?_cons_succ, List.getElem?_cons_zero]; rfl) (by kernel_rfl) (by kernel_rfl) (by kernel_rfl) (by intro _ _ _ h; exact h) (Or.inl ⟨by rfl, ?_⟩) hHeld ?_
  rotate_left 1
  · intro wx hSw
    first
      | (go_simp; done)
      | (go_simp; with_reducible rfl)
      | with_reducible rfl
  simp only [Act.put, List.setIfInBounds_toArray, List.set_cons_zero, List.set_cons_succ]
  refine wpAnyH_take (i := 7) (v := ?_) (by simp only [List.getElem?_toArray, List.getElem?_cons_succ, List.getElem?_cons_zero]; rfl) (by kernel_rfl) (by kernel_rfl) (by kernel_rfl) (by intro _ _ _ h; exact h) (Or.inl ⟨by rfl, ?_⟩) hHeld ?_
  rotate_left 1
  · intro wx hSw
    first
      | (go_simp; done)
      | (go_simp; with_reducible rfl)
      | with_reducible rfl
  simp only [Act.put, List.setIfInBounds_toArray, List.set_cons_zero, List.set_cons_succ]
  refine wpAnyH_take (i := 8) (v := ?_) (by simp only [List.getElem?_toArray, List.getElem?_cons_succ, List.getElem?_cons_zero]; rfl) (by kernel_rfl) (by kernel_rfl) (by kernel_rfl) (by intro _ _ _ h; exact h) (Or.inl ⟨by rfl, ?_⟩) hHeld ?_
  rotate_left 1
  · intro wx hSw
    first
      | (go_simp; done)
      | (go_simp; with_reducible rfl)
      | with_reducible rfl
  simp only [Act.put, List.setIfInBounds_toArray, List.set_cons_zero, List.set_cons_succ]
  refine wpAnyH_take (i := 9) (v := ?_) (by simp only [List.getElem?_toArray, List.getElem?_cons_succ, List.getElem?_cons_zero]; rfl) (by kernel_rfl) (by kernel_rfl) (by kernel_rfl) (by intro _ _ _ h; exact h) (Or.inl ⟨by rfl, ?_⟩) hHeld ?_
  rotate_left 1
  · intro wx hSw
    first
      | (go_simp; done)
      | (go_simp; with_reducible rfl)
      | with_reducible rfl
  simp only [Act.put, List.setIfInBounds_toArray, List.set_cons_zero, List.set_cons_succ]
  refine wpAnyH_take (i := 10) (v := ?_) (by simp only [List.getElem?_toArray, List.getElem?_cons_succ, List.getElem?_cons_zero]; rfl) (by kernel_rfl) (by kernel_rfl) (by kernel_rfl) (by intro _ _ _ h; exact h) (Or.inl ⟨by rfl, ?_⟩) hHeld ?_
  rotate_left 1
  · intro wx hSw
    first
      | (go_simp; done)
      | (go_simp; with_reducible rfl)
      | with_reducible rfl
  simp only [Act.put, List.setIfInBounds_toArray, List.set_cons_zero, List.set_cons_succ]
  refine wpAnyH_take (i := 11) (v := ?_) (by simp only [List.getElem?_toArray, List.getElem?_cons_succ, List.getElem?_cons_zero]; rfl) (by kernel_rfl) (by kernel_rfl) (by kernel_rfl) (by intro _ _ _ h; exact h) (Or.inl ⟨by rfl, ?_⟩) hHeld ?_
  rotate_left 1
  · intro wx hSw
    first
      | (go_simp; done)
      | (go_simp; with_reducible rfl)
      | with_reducible rfl
  simp only [Act.put, List.setIfInBounds_toArray, List.set_cons_zero, List.set_cons_succ]
  refine wpAnyH_take (i := 12) (v := ?_) (by simp only [List.getElem?_toArray, List.getElem?_cons_succ, List.getElem?_cons_zero]; rfl) (by kernel_rfl) (by kernel_rfl) (by kernel_rfl) (by intro _ _ _ h; exact h) (Or.inl ⟨by rfl, ?_⟩) hHeld ?_
  rotate_left 1
  · intro wx hSw
    first
      | (go_simp; done)
      | (go_simp; with_reducible rfl)
      | with_reducible rfl
  simp only [Act.put, List.setIfInBounds_toArray, List.set_cons_zero, List.set_cons_succ]
  refine wpAnyH_take (i := 13) (v := ?_) (by simp only [List.getElem?_toArray, List.getElem?_cons_succ, List.getElem?_cons_zero]; rfl) (by kernel_rfl) (by kernel_rfl) (by kernel_rfl) (by intro _ _ _ h; exact h) (Or.inl ⟨by rfl, ?_⟩) hHeld ?_
  rotate_left 1
  · intro wx hSw
    first
      | (go_simp; done)
      | (go_simp; with_reducible rfl)
      | with_reducible rfl
  simp only [Act.put, List.setIfInBounds_toArray, List.set_cons_zero, List.set_cons_succ]
  refine wpAnyH_take (i := 14) (v := ?_) (by simp only [List.getElem?_toArray, List.getElem?_cons_succ, List.getElem?_cons_zero]; rfl) (by kernel_rfl) (by kernel_rfl) (by kernel_rfl) (by intro _ _ _ h; exact h) (Or.inl ⟨by rfl, ?_⟩) hHeld ?_
  rotate_left 1
  · intro wx hSw
    first
      | (go_simp; done)
      | (go_simp; with_reducible rfl)
      | with_reducible rfl
  simp only [Act.put, List.setIfInBounds_toArray, List.set_cons_zero, List.set_cons_succ]
  refine wpAnyH_take (i := 15) (v := ?_) (by simp only [List.getElem?_toArray, List.getElem?_cons_succ, List.getElem?_cons_zero]; rfl) (by kernel_rfl) (by kernel_rfl) (by kernel_rfl) (by intro _ _ _ h; exact h) (Or.inl ⟨by rfl, ?_⟩) hHeld ?_
  rotate_left 1
  · intro wx hSw
    first
      | (go_simp; done)
      | (go_simp; with_reducible rfl)
      | with_reducible rfl
  simp only [Act.put, List.setIfInBounds_toArray, List.set_cons_zero, List.set_cons_succ]
  refine wpAnyH_take (i := 16) (v := ?_) (by simp only [List.getElem?_toArray, List.getElem?_cons_succ, List.getElem?_cons_zero]; rfl) (by kernel_rfl) (by kernel_rfl) (by kernel_rfl) (by intro _ _ _ h; exact h) (Or.inl ⟨by rfl, ?_⟩) hHeld ?_
  rotate_left 1
  · intro wx hSw
    first
      | (go_simp; done)
      | (go_simp; with_reducible rfl)
      | with_reducible rfl
  simp only [Act.put, List.setIfInBounds_toArray, List.set_cons_zero, List.set_cons_succ]
  refine wpAnyH_take (i := 17) (v := ?_) (by simp only [List.getElem?_toArray, List.getElem?_cons_succ, List.getElem?_cons_zero]; rfl) (by kernel_rfl) (by kernel_rfl) (by kernel_rfl) (by intro _ _ _ h; exact h) (Or.inl ⟨by rfl, ?_⟩) hHeld ?_
  rotate_left 1
  · intro wx hSw
    first
      | (go_simp; done)
      | (go_simp; with_reducible rfl)
      | with_reducible rfl
  simp only [Act.put, List.setIfInBounds_toArray, List.set_cons_zero, List.set_cons_succ]
  refine wpAnyH_take (i := 19) (v := ?_) (by simp only [List.getElem?_toArray, List.getElem?_cons_succ, List.getElem?_cons_zero]; rfl) (by kernel_rfl) (by kernel_rfl) (by kernel_rfl) (by intro _ _ _ h; exact h) (Or.inl ⟨by rfl, ?_⟩) hHeld ?_
  rotate_left 1
  · intro wx hSw
    first
      | (go_simp; done)
      | (go_simp; with_reducible rfl)
      | with_reducible rfl
  simp only [Act.put, List.setIfInBounds_toArray, List.set_cons_zero, List.set_cons_succ]
  refine wpAnyH_take (i := 22) (v := ?_) (by simp only [List.getElem?_toArray, List.getElem?_cons_succ, List.getElem?_cons_zero]; rfl) (by kernel_rfl) (by kernel_rfl) (by kernel_rfl) (by intro _ _ _ h; exact h) (Or.inl ⟨by rfl, ?_⟩) hHeld ?_
  rotate_left 1
  · intro wx hSw
    first
      | (go_simp; done)
      | (go_simp; with_reducible rfl)
      | with_reducible rfl
  simp only [Act.put, List.setIfInBounds_toArray, List.set_cons_zero, List.set_cons_succ]
  refine wpAnyH_take (i := 25) (v := ?_) (by simp only [List.getElem?_toArray, List.getElem?_cons_succ, List.getElem?_cons_zero]; rfl) (by kernel_rfl) (by kernel_rfl) (by kernel_rfl) (by intro _ _ _ h; exact h) (Or.inl ⟨by rfl, ?_⟩) hHeld ?_
  rotate_left 1
  · intro wx hSw
    first
      | (go_simp; done)
      | (go_simp; with_reducible rfl)
      | with_reducible rfl
  simp only [Act.put, List.setIfInBounds_toArray, List.set_cons_zero, List.set_cons_succ]
  refine wpAnyH_ready (rs := [18]) (by kernel_rfl) (by simp) ?_
  refine AllReadyH.cons (by simp only [List.getElem?_toArray, List.getElem?_cons_succ, List.getElem?_cons_zero]; rfl) (fun K0 hK => ?_) AllReadyH.nil
  go_simp
  refine hK.out _ _ ⟨cell_far hHeld.1 hgf _, cell_far hHeld.2.1 hgf _, cell_far hHeld.2.2.1 hgf _, cell_far hHeld.2.2.2 hgf _⟩ (fun hHeld => ?_)
  clear hK K0
  try simp only [Act.put, List.setIfInBounds_toArray, List.set_cons_zero, List.set_cons_succ]
  refine wpAnyH_take (i := 20) (v := ?_) (by simp only [List.getElem?_toArray, List.getElem?_cons_succ, List.getElem?_cons_zero]; rfl) (by kernel_rfl) (by kernel_rfl) (by kernel_rfl) (by intro _ _ _ h; exact h) (Or.inl ⟨by rfl, ?_⟩) hHeld ?_
  rotate_left 1
  · intro wx hSw
    first
      | (go_simp; done)
      | (go_simp; with_reducible rfl)
      | with_reducible rfl
  simp only [Act.put, List.setIfInBounds_toArray, List.set_cons_zero, List.set_cons_succ]
  refine wpAnyH_ready (rs := [21]) (by kernel_rfl) (by simp) ?_
  refine AllReadyH.cons (by simp only [List.getElem?_toArray, List.getElem?_cons_succ, List.getElem?_cons_zero]; rfl) (fun K0 hK => ?_) AllReadyH.nil
  go_simp
  refine hK.out _ _ ⟨cell_far hHeld.1 hgf _, cell_far hHeld.2.1 hgf _, cell_far hHeld.2.2.1 hgf _, cell_far hHeld.2.2.2 hgf _⟩ (fun hHeld => ?_)
  clear hK K0
  try simp only [Act.put, List.setIfInBounds_toArray, List.set_cons_zero, List.set_cons_succ]
  refine wpAnyH_take (i := 23) (v := ?_) (by simp only [List.getElem?_toArray, List.getElem?_cons_succ, List.getElem?_cons_zero]; rfl) (by kernel_rfl) (by kernel_rfl) (by kernel_rfl) (by intro _ _ _ h; exact h) (Or.inl ⟨by rfl, ?_⟩) hHeld ?_
  rotate_left 1
  · intro wx hSw
    first
      | (go_simp; done)
      | (go_simp; with_reducible rfl)
      | with_reducible rfl
  simp only [Act.put, List.setIfInBounds_toArray, List.set_cons_zero, List.set_cons_succ]
  refine wpAnyH_ready (rs := [24]) (by kernel_rfl) (by simp) ?_
  refine AllReadyH.cons (by simp only [List.getElem?_toArray, List.getElem?_cons_succ, List.getElem?_cons_zero]; rfl) (fun K0 hK => ?_) AllReadyH.nil
  go_simp
  refine hK.out _ _ ⟨cell_far hHeld.1 hgf _, cell_far hHeld.2.1 hgf _, cell_far hHeld.2.2.1 hgf _, cell_far hHeld.2.2.2 hgf _⟩ (fun hHeld => ?_)
  clear hK K0
  try simp only [Act.put, List.setIfInBounds_toArray, List.set_cons_zero, List.set_cons_succ]
  refine wpAnyH_take (i := 26) (v := ?_) (by simp only [List.getElem?_toArray, List.getElem?_cons_succ, List.getElem?_cons_zero]; rfl) (by kernel_rfl) (by kernel_rfl) (by kernel_rfl) (by intro _ _ _ h; exact h) (Or.inl ⟨by rfl, ?_⟩) hHeld ?_
  rotate_left 1
  · intro wx hSw
    first
      | (go_simp; done)
      | (go_simp; with_reducible rfl)
      | with_reducible rfl
  simp only [Act.put, List.setIfInBounds_toArray, List.set_cons_zero, List.set_cons_succ]
  refine wpAnyH_ready (rs := [27]) (by kernel_rfl) (by simp) ?_
  refine AllReadyH.cons (by simp only [List.getElem?_toArray, List.getElem?_cons_succ, List.getElem?_cons_zero]; rfl) (fun K0 hK => ?_) AllReadyH.nil
  go_simp
  refine hK.out _ _ ⟨cell_far hHeld.1 hgf _, cell_far hHeld.2.1 hgf _, cell_far hHeld.2.2.1 hgf _, cell_far hHeld.2.2.2 hgf _⟩ (fun hHeld => ?_)
  clear hK K0
  try simp only [Act.put, List.setIfInBounds_toArray, List.set_cons_zero, List.set_cons_succ]
  refine wpAnyH_done (by kernel_rfl) ?_ _
  -- END
  have h0 : Fr (· = g) w W2 := HV2.out.2.mono (fun _ _ e => e.elim)
  refine (show _ ∧ _ from ⟨rfl, .tuple #[], results_none rfl _ _ _, rfl, ⟨HVd.out.blk, HVd.out.len⟩, ?_⟩)
  exact ((((h0.setCell (p := ⟨g, a, none⟩) (Or.inl rfl) _).setCell (p := ⟨g, b, none⟩) (Or.inl rfl) _).setCell (p := ⟨g, c, none⟩) (Or.inl rfl) _).setCell (p := ⟨g, d, none⟩) (Or.inl rfl) _).drew
end Go.Proofs.YtoikgnmhnlcbhaaDoor.dg
