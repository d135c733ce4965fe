/-
  The program's table of places; its fields.
-/
import Derived.Test.YtgimiggffpokpaaGreatDoorJB
namespace Go.Proofs.YtgimiggffpokpaaGreatDoor.he
set_option maxRecDepth 100000
open Go.RowKit Go.Maps
set_option maxRecDepth 100000

def plL : List (Nat × Nat) := [(0, 100), (100, 8), (108, 8), (116, 8), (124, 12), (136, 12), (148, 8), (156, 1), (157, 100), (257, 8), (345, 155)]
/-- What lies in the program's data: the table of places; of the library's table of trailing noughts the place that 8 has. -/
structure DT (w : World) : Prop where
  at_ : ∀ (k a n : Nat), plL[k]? = some (a, n) → w.cell? ⟨0, k * 2, none⟩ = some (.int .i64 (a : Int))
  tz : w.cell? ⟨6, 7, none⟩ = some (.int .u8 3)
  len : ∀ (k a n : Nat), plL[k]? = some (a, n) → w.cell? ⟨0, k * 2 + 1, none⟩ = some (.int .i64 (n : Int))
theorem cell_kept {w w' : World} {x : Addr} {v : Value} (h : w.cell? x = some v) (hF : Fr (fun _ => False) w w') : w'.cell? x = some v :=
  (World.cell?_of_block (w := w) (w' := w') (hF.block x.block (block_lt_of_cell h) (fun e => e))).trans h
theorem DT.keep {w w' : World} (h : DT w) (hF : Fr (fun _ => False) w w') : DT w' := ⟨fun k a n hk => cell_kept (h.at_ k a n hk) hF, cell_kept h.tz hF, fun k a n hk => cell_kept (h.len k a n hk) hF⟩
theorem pl_lt {k a n : Nat} (h : plL[k]? = some (a, n)) : k < 11 := (List.getElem?_eq_some_iff.1 h).1
theorem pl_le {k a n : Nat} (h : plL[k]? = some (a, n)) : a + n ≤ 500 ∧ 1 ≤ n := by
  have hk := pl_lt h
  rcases (show k = 0 ∨ k = 1 ∨ k = 2 ∨ k = 3 ∨ k = 4 ∨ k = 5 ∨ k = 6 ∨ k = 7 ∨ k = 8 ∨ k = 9 ∨ k = 10 by omega) with rfl | rfl | rfl | rfl | rfl | rfl | rfl | rfl | rfl | rfl | rfl <;> (cases h; exact ⟨by decide, by decide⟩)
set_option maxHeartbeats 2000000 in
theorem psize (w : World) (hT : DT w) (k a n : Nat) (h : plL[k]? = some (a, n)) : Calls Tryz.prog 82 #[.int .i64 (k : Int)] w fun e w' => e = .returned (.int .i64 (n : Int)) ∧ w = w' := by
  have c1 := hT.len k a n h
  have hk := pl_lt h
  clear hT h
  go_enter Tryz.func82, Tryz.ntmps82
  go_wp2_with fail
  go_ret
  exact ⟨rfl, rfl⟩
set_option maxHeartbeats 2000000 in
theorem pof (w : World) (hT : DT w) (k a n : Nat) (h : plL[k]? = some (a, n)) (blk off m cap : Nat) (hc : 500 ≤ cap) : Calls Tryz.prog 43 #[.int .i64 (k : Int), .slice (some ⟨blk, off, none⟩) m cap] w fun e w' => e = .returned (.slice (some ⟨blk, off + a, none⟩) n n) ∧ Fr (fun _ => False) w w' := by
  have c0 := hT.at_ k a n h
  have c1 := hT.len k a n h
  have hk := pl_lt h
  obtain ⟨h1, h2⟩ := pl_le h
  have HF := Lib.hid ((Fr.refl (fun _ => False) w).alloc (.cells #[.int .i64 (a : Int), .int .i64 (n : Int)] 112))
  clear hT h
  go_enter Tryz.func43, Tryz.ntmps43
  go_wp2_with fail
  go_ret
  exact ⟨by show Ending.returned (.slice (some ⟨blk, off + a, none⟩) (a + n - a) (a + n - a)) = _; rw [Nat.add_sub_cancel_left], HF.out⟩
set_option maxHeartbeats 2000000 in
theorem phas (w : World) (hT : DT w) (k a n : Nat) (h : plL[k]? = some (a, n)) (i : Nat) (hi : i ≤ 140737488351232) : Calls Tryz.prog 69 #[.int .i64 (k : Int), .int .i64 (i : Int)] w fun e w' => e = .returned (.bool (decide (a ≤ i ∧ i < a + n))) ∧ Fr (fun _ => False) w w' := by
  have c0 := hT.at_ k a n h
  have c1 := hT.len k a n h
  have hk := pl_lt h
  obtain ⟨h1, h2⟩ := pl_le h
  have HF := Lib.hid ((Fr.refl (fun _ => False) w).alloc (.cells #[.int .i64 (a : Int), .int .i64 (n : Int)] 112))
  obtain ⟨R, hR⟩ : ∃ R, R = decide (a ≤ i ∧ i < a + n) := ⟨_, rfl⟩
  rw [← hR]
  have HR := Lib.hid hR
  clear hT h hR
  rcases (show (a ≤ i ∧ i < a + n) ∨ (a ≤ i ∧ ¬ i < a + n) ∨ ¬ a ≤ i by omega) with ⟨g1, g2⟩ | ⟨g1, g2⟩ | g1
  · have HE := Lib.hid (HR.out.trans (decide_eq_true ⟨g1, g2⟩))
    have g3 : (i : Int) < (a : Int) + (n : Int) := by omega
    clear HR g2
    go_enter Tryz.func69, Tryz.ntmps69
    go_wp2_with fail
    go_ret
    exact ⟨by rw [HE.out]; rfl, HF.out⟩
  · have HE := Lib.hid (HR.out.trans (decide_eq_false (fun e => g2 e.2)))
    have g3 : ¬ (i : Int) < (a : Int) + (n : Int) := by omega
    clear HR g2
    go_enter Tryz.func69, Tryz.ntmps69
    go_wp2_with fail
    go_ret
    exact ⟨by rw [HE.out]; rfl, HF.out⟩
  · have HE := Lib.hid (HR.out.trans (decide_eq_false (fun e => g1 e.1)))
    clear HR
    go_enter Tryz.func69, Tryz.ntmps69
    go_wp2_with fail
    go_ret
    exact ⟨by rw [HE.out]; rfl, HF.out⟩
end Go.Proofs.YtgimiggffpokpaaGreatDoor.he
