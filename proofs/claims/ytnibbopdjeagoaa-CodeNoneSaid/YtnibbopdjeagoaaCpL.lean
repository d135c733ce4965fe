/-
  The program's Fixed.
-/
import Derived.Test.YtnibbopdjeagoaaCpK
namespace Go.Proofs.Ytnibbopdjeagoaa.cd
set_option maxRecDepth 100000
open Go.RowKit Go.Maps Go.Proofs.Ytnibbopdjeagoaa.fl
set_option maxRecDepth 100000

abbrev fixP (g1 g2 g3 g4 : Nat) : List (Nat × List Int) := [(g1, List.replicate 144 8), (g2, List.replicate 112 9), (g3, List.replicate 24 7), (g4, List.replicate 8 8)]
theorem fix_cat (g1 g2 g3 g4 : Nat) : catI (fixP g1 g2 g3 g4) 4 = fixI := by
  kernel_rfl
theorem fix_rows {w w1 w2 w3 w4 : World} {g1 g2 g3 g4 : Nat} (_ : Fr (fun _ => False) w w1) (h2 : Fr (fun _ => False) w1 w2) (h3 : Fr (fun _ => False) w2 w3) (h4 : Fr (fun _ => False) w3 w4)
    (r1 : w1.heap[g1]? = some (.cells (is (List.replicate 144 8)).toArray 3 (0, 0))) (r2 : w2.heap[g2]? = some (.cells (is (List.replicate 112 9)).toArray 3 (0, 0))) (r3 : w3.heap[g3]? = some (.cells (is (List.replicate 24 7)).toArray 3 (0, 0))) (r4 : w4.heap[g4]? = some (.cells (is (List.replicate 8 8)).toArray 3 (0, 0))) :
    RowsI (w4.alloc (.cells #[slA g1 144, slA g2 112, slA g3 24, slA g4 8] 22)) w4.heap.size (fixP g1 g2 g3 g4) := by
  have hA := (Fr.refl (fun _ => False) w4).alloc (.cells #[slA g1 144, slA g2 112, slA g3 24, slA g4 8] 22)
  have e3 := h4.trans hA (fun _ _ e => e)
  have e2 := h3.trans e3 (fun _ _ e => e)
  have e1 := h2.trans e2 (fun _ _ e => e)
  refine ⟨fun k q hk => ?_, by simp, fun k q hk => ?_⟩
  · rw [cellAt (heap_alloc_new _ _)]
    rcases k with _ | _ | _ | _ | k
    · cases hk; rfl
    · cases hk; rfl
    · cases hk; rfl
    · cases hk; rfl
    · simp at hk
  · rcases k with _ | _ | _ | _ | k
    · cases hk; exact (e1.block _ (lt_of_block r1) id).trans r1
    · cases hk; exact (e2.block _ (lt_of_block r2) id).trans r2
    · cases hk; exact (e3.block _ (lt_of_block r3) id).trans r3
    · cases hk; exact (hA.block _ (lt_of_block r4) id).trans r4
    · simp at hk
theorem ownI_low {w : World} {B B' : Nat} {v : Value} {l : List Int} (h : OwnI w B v l) (hB : B' ≤ B) : OwnI w B' v l := by
  obtain ⟨h1, h2⟩ := h
  refine ⟨h1, ?_⟩
  rcases h2 with h2 | ⟨g, cap, cur, hv, hg, r⟩
  · exact Or.inl h2
  · exact Or.inr ⟨g, cap, cur, hv, Nat.le_trans hB hg, r⟩
set_option maxHeartbeats 2000000 in
theorem pfixed (w : World) : Calls Try.prog 15 #[] w (NewL w fixI) := by
  have H1 := Lib.hid (fun wx : World => (prepeat (wx.alloc (.cells #[.int .i64 8] 3)) wx.heap.size 8 144 (by omega) (by omega) (heap_alloc_new _ _) pmul_144))
  have H2 := Lib.hid (fun wx : World => (prepeat (wx.alloc (.cells #[.int .i64 9] 3)) wx.heap.size 9 112 (by omega) (by omega) (heap_alloc_new _ _) pmul_112))
  have H3 := Lib.hid (fun wx : World => (prepeat (wx.alloc (.cells #[.int .i64 7] 3)) wx.heap.size 7 24 (by omega) (by omega) (heap_alloc_new _ _) pmul_24))
  have H4 := Lib.hid (fun wx : World => (prepeat (wx.alloc (.cells #[.int .i64 8] 3)) wx.heap.size 8 8 (by omega) (by omega) (heap_alloc_new _ _) pmul_8))
  have HA := Lib.hid (fun (wx : World) (o : Obj) => (Fr.refl (fun _ => False) wx).alloc o)
  go_enter Try.func15, Try.ntmps15
  go_wp2_with fail
  refine (H1.out _).mono ?_
  rintro e w1 ⟨g1, rfl, r1, _, f1⟩
  have R1 := Lib.hid (⟨r1, (HA.out w _).trans f1 (fun _ _ e => e)⟩ : _ ∧ _)
  clear r1 f1 H1
  go_wp2_with fail
  refine (H2.out _).mono ?_
  rintro e w2 ⟨g2, rfl, r2, _, f2⟩
  have R2 := Lib.hid (⟨r2, (HA.out w1 _).trans f2 (fun _ _ e => e)⟩ : _ ∧ _)
  clear r2 f2 H2
  go_wp2_with fail
  refine (H3.out _).mono ?_
  rintro e w3 ⟨g3, rfl, r3, _, f3⟩
  have R3 := Lib.hid (⟨r3, (HA.out w2 _).trans f3 (fun _ _ e => e)⟩ : _ ∧ _)
  clear r3 f3 H3
  go_wp2_with fail
  refine (H4.out _).mono ?_
  rintro e w4 ⟨g4, rfl, r4, _, f4⟩
  have R4 := Lib.hid (⟨r4, (HA.out w3 _).trans f4 (fun _ _ e => e)⟩ : _ ∧ _)
  clear r4 f4 H4
  go_wp2_with fail
  have HC := Lib.hid (concat_ints _ w4.heap.size 4 (fixP g1 g2 g3 g4) (fix_rows R1.out.2 R2.out.2 R3.out.2 R4.out.2 R1.out.1 R2.out.1 R3.out.1 R4.out.1) (by show 4 ≤ 100; omega) (by rw [show (fixP g1 g2 g3 g4).length = 4 from rfl, fix_cat]; decide +kernel))
  rw [show (fixP g1 g2 g3 g4).length = 4 from rfl, fix_cat] at HC
  refine HC.out.mono ?_
  rintro e w5 ⟨A, cap, rfl, ho, hF⟩
  obtain ⟨n, hn⟩ : ∃ n, n = fixI.length := ⟨_, rfl⟩
  have H5 := Lib.hid (show OwnI w5 w.heap.size (.slice A fixI.length cap) fixI from ownI_low ho (by
    have h1 := R1.out.2.size
    have h2 := R2.out.2.size
    have h3 := R3.out.2.size
    have h4 := R4.out.2.size
    rw [World.size_alloc]
    omega))
  have HNN := Lib.hid hn
  rw [← hn]
  have HFR := Lib.hid (((((R1.out.2.trans R2.out.2 (fun _ _ e => e)).trans R3.out.2 (fun _ _ e => e)).trans R4.out.2 (fun _ _ e => e)).alloc (.cells #[slA g1 144, slA g2 112, slA g3 24, slA g4 8] 22)).trans hF (fun _ _ e => e))
  clear ho hF HC hn
  go_wp2_with fail
  go_ret
  exact ⟨A, cap, by rw [← HNN.out]; rfl, H5.out, HFR.out⟩
end Go.Proofs.Ytnibbopdjeagoaa.cd
