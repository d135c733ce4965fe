/-
  The program's stream: number, room, size, plain.
-/
import Derived.Test.YtcdhakfmljjaoaaGreatDoorJI
namespace Go.Proofs.YtcdhakfmljjaoaaGreatDoor.ft
set_option maxRecDepth 100000
open Go.RowKit Go.Maps Go.Proofs.YtcdhakfmljjaoaaGreatDoor.fl Go.Proofs.YtcdhakfmljjaoaaGreatDoor.cd
set_option maxRecDepth 100000

section
variable {E : En} {K : Nat → Prop} {w : World} {p : Nat} {out : By}
theorem kp_cell {K : Nat → Prop} {w w' : World} {g j : Nat} (hk : Kp K w w') (hg : K g) : w'.cell? ⟨g, j, none⟩ = w.cell? ⟨g, j, none⟩ := World.cell?_of_block (hk g hg)
abbrev spnO (bs n : Nat) : Obj := .cells #[.int .i64 (bs : Int), .int .i64 (n : Int)] 129
set_option maxHeartbeats 1000000 in
theorem number_no (h : JS E K w p out) (bs : Nat) {n : Nat} (hb : bs ≤ 100000) (hn : n ≤ 24) (ht : tk n (bitsOf E.b) p = .error 7) (wx : World) (hF : Fr (fun _ => False) w wx) : Calls Tryz.prog 113 #[.pointer (some ⟨E.g, 0, none⟩), .agg #[.int .i64 (bs : Int), .int .i64 (n : Int)]] wx fun e w' => (∃ v : Int, e = .returned (.tuple #[.int .i64 v, .int .i64 7])) ∧ Fr (fun _ => False) E.w0 w' ∧ Kp K w w' := by
  have hA := (Fr.refl (fun _ => False) wx).alloc (spnO bs n)
  have hJ := (h.still hF).new hA
  have c0 := hJ.c0
  have HT := Lib.hid (hJ.take_no hn ht)
  have HK := Lib.hid (show ∀ w', Kp (fun i => K i ∨ (wx.heap.size ≤ i ∧ i < (wx.alloc (spnO bs n)).heap.size)) (wx.alloc (spnO bs n)) w' → Kp K w w' ∧ w'.cell? ⟨wx.heap.size, 0, none⟩ = some (.int .i64 (bs : Int)) from fun w' hk => ⟨(h.kp (hF.alloc _)).trans (hk.mono (fun _ e => Or.inl e)), (kp_cell hk (Or.inr ⟨Nat.le_refl _, by rw [World.size_alloc]; omega⟩)).trans ((cellAt (heap_alloc_new _ _) 0).trans rfl)⟩)
  clear hA h hJ hF
  go_enter Tryz.func113, Tryz.ntmps113
  go_wp2_with fail
  go_region_with (go_at_call 75; refine (HT.out _ (by first | exact Fr.refl _ _ | exact (Fr.refl _ _).drew | exact (Fr.refl _ _).drewN _)).mono ?_; rintro e w1 ⟨rfl, g2, g3⟩; obtain ⟨g4, z0⟩ := HK.out _ g3)
  all_goals
    go_wp2_with fail
    go_ret2
    exact ⟨⟨_, rfl⟩, g2, g4⟩
set_option maxHeartbeats 1000000 in
theorem number_ok (h : JS E K w p out) (bs : Nat) {n x : Nat} (hb : bs ≤ 100000) (hn : n ≤ 24) (ht : tk n (bitsOf E.b) p = .ok ((x : Int), p + n)) (hx : x ≤ 16777216) (wx : World) (hF : Fr (fun _ => False) w wx) : Calls Tryz.prog 113 #[.pointer (some ⟨E.g, 0, none⟩), .agg #[.int .i64 (bs : Int), .int .i64 (n : Int)]] wx fun e w' => e = .returned (.tuple #[.int .i64 ((bs + x : Nat) : Int), .int .i64 0]) ∧ JS E K w' (p + n) out ∧ Kp K w w' := by
  have hA := (Fr.refl (fun _ => False) wx).alloc (spnO bs n)
  have hJ := (h.still hF).new hA
  have c0 := hJ.c0
  have HT := Lib.hid (hJ.take_ok hn ht)
  have HK := Lib.hid (show ∀ w', Kp (fun i => K i ∨ (wx.heap.size ≤ i ∧ i < (wx.alloc (spnO bs n)).heap.size)) (wx.alloc (spnO bs n)) w' → Kp K w w' ∧ w'.cell? ⟨wx.heap.size, 0, none⟩ = some (.int .i64 (bs : Int)) from fun w' hk => ⟨(h.kp (hF.alloc _)).trans (hk.mono (fun _ e => Or.inl e)), (kp_cell hk (Or.inr ⟨Nat.le_refl _, by rw [World.size_alloc]; omega⟩)).trans ((cellAt (heap_alloc_new _ _) 0).trans rfl)⟩)
  clear hA h hJ hF
  go_enter Tryz.func113, Tryz.ntmps113
  go_wp2_with fail
  go_region_with (go_at_call 75; refine (HT.out _ (by first | exact Fr.refl _ _ | exact (Fr.refl _ _).drew | exact (Fr.refl _ _).drewN _)).mono ?_; rintro e w1 ⟨rfl, g2, g3⟩; obtain ⟨g4, z0⟩ := HK.out _ g3)
  all_goals
    go_wp2_with fail
    go_ret2
    exact ⟨by go_num, g2.less (fun _ e => Or.inl e), g4⟩
set_option maxHeartbeats 1000000 in
theorem proom (h : JS E K w p out) : Calls Tryz.prog 111 #[.pointer (some ⟨E.g, 0, none⟩)] w fun e w' => e = .returned (.int .i64 ((E.most - out.length : Nat) : Int)) ∧ Calm w w' := by
  obtain ⟨A, cap, _, _, _, c3, c4⟩ := h.cells
  obtain ⟨h1, h2⟩ := h.le
  obtain ⟨n, hn⟩ : ∃ n, n = out.length := ⟨_, rfl⟩
  obtain ⟨m, hm⟩ : ∃ m, m = E.most := ⟨_, rfl⟩
  obtain ⟨g, hg⟩ : ∃ g, g = E.g := ⟨_, rfl⟩
  rw [← hn] at c4 h1
  rw [← hm] at c3 h1 h2
  rw [← hg] at c3 c4
  rw [← hn, ← hm, ← hg]
  clear h hn hm hg
  go_enter Tryz.func111, Tryz.ntmps111
  go_wp2_with fail
  go_quiet (fail)
  go_wp2
  go_ret
  exact ⟨by go_num, nq, rfl⟩
end
end Go.Proofs.YtcdhakfmljjaoaaGreatDoor.ft
