/-
  What is asked of the program's paths; the law's works over it.
-/
import Derived.Test.YtldlonkaedjdpaaPtG
namespace Go.Proofs.Ytldlonkaedjdpaa.pt
set_option maxRecDepth 100000
open Go.RowKit Go.Maps
set_option maxRecDepth 100000

/-- The program's paths, as the chapter has them; cl: what Clean answers (of a text that is not empty what the document does; of the empty one, the empty text and one of two numbers). -/
structure PathP (cl : Tx → Tx × Int) : Prop where
  cl_eq : ∀ l, l ≠ [] → cl l = cleanL l
  cl_nil : cl [] = ([], 0) ∨ cl [] = ([], 140)
  check : ∀ (w : World) (s : ByteArray), s.size ≤ maxLen → Calls Try.prog 12 #[.string s] w fun e w' => e = .returned (.int .i64 (checkZ s.toList)) ∧ Fr (fun _ => False) w w'
  clean : ∀ (w : World) (s : ByteArray), s.size ≤ maxLen → Calls Try.prog 10 #[.string s] w (AnsC w (cl s.toList))
  target : ∀ (w : World) (s t : ByteArray), s.size ≤ maxLen → t.size ≤ 1099511627776 → Calls Try.prog 15 #[.string s, .string t] w (AnsC w (targetL s.toList t.toList))
  parent : ∀ (w : World) (s : ByteArray), s.size ≤ 1099511627776 → Calls Try.prog 17 #[.string s] w fun e w' => e = .returned (.string (tx (parentL s.toList))) ∧ Fr (fun _ => False) w w'
  base : ∀ (w : World) (s : ByteArray), s.size ≤ 1099511627776 → Calls Try.prog 19 #[.string s] w fun e w' => e = .returned (.string (tx (baseL s.toList))) ∧ Fr (fun _ => False) w w'
  join : ∀ (w : World) (s t : ByteArray), s.size + t.size + 1 ≤ maxLen → Calls Try.prog 21 #[.string s, .string t] w fun e w' => e = .returned (.string (tx (joinT s.toList t.toList))) ∧ Fr (fun _ => False) w w'
  under : ∀ (w : World) (s t : ByteArray), s.size ≤ 140737488355328 → t.size ≤ 140737488355328 → Calls Try.prog 23 #[.string s, .string t] w fun e w' => e = .returned (.bool (underT s.toList t.toList)) ∧ Fr (fun _ => False) w w'
  all : ∀ (w : World) (s : ByteArray), s.size ≤ 1099511627776 → Calls Try.prog 26 #[.string s] w (NewS w (allL s.toList))

theorem PathP.no {cl : Tx → Tx × Int} (HP : PathP cl) {l a : Tx} {z : Int} (h : cl l = (a, z)) (hz : z ≠ 0) : a = [] ∧ z = 140 := by
  by_cases hl : l = []
  · subst hl
    rcases HP.cl_nil with e | e
    · rw [e] at h; cases h; exact absurd rfl hz
    · rw [e] at h; cases h; exact ⟨rfl, rfl⟩
  · rw [HP.cl_eq l hl] at h
    exact clean_no h hz
theorem PathP.ok {cl : Tx → Tx × Int} (HP : PathP cl) {l a : Tx} (h : cl l = (a, 0)) : okT a = true ∧ (a = [] ∨ cl a = (a, 0)) := by
  by_cases hl : l = []
  · subst hl
    rcases HP.cl_nil with e | e
    · rw [e] at h; cases h; exact ⟨okT_nil, Or.inl rfl⟩
    · rw [e] at h; cases h
  · rw [HP.cl_eq l hl] at h
    obtain ⟨h1, h2⟩ := clean_ok h
    refine ⟨h1, ?_⟩
    by_cases ha : a = []
    · exact Or.inl ha
    · rw [HP.cl_eq a ha]; exact h2
/-- An answer of a text and a number. -/
def Ans2 (w : World) (a : Tx) (z : Int) (e : Ending) (w' : World) : Prop := (∃ X : ByteArray, e = .returned (.tuple #[.string X, .int .i64 z]) ∧ X.toList = a) ∧ Fr (fun _ => False) w w'
theorem AnsC.two {w w' : World} {r : Tx × Int} {a : Tx} {z : Int} {e : Ending} (h : AnsC w r e w') (hr : r = (a, z)) : Ans2 w a z e w' := by
  subst hr
  exact ⟨⟨tx a, h.1, tx_toL a⟩, h.2⟩
theorem clean_at {cl : Tx → Tx × Int} (HP : PathP cl) (w : World) (l : Tx) (a : Tx) (z : Int) (h : cleanL l = (a, z)) (hl : l.length ≤ 1000) (hne : l ≠ []) : Calls Try.prog 10 #[.string (tx l)] w (Ans2 w a z) :=
  (HP.clean w (tx l) (by rw [tx_size]; unfold maxLen; omega)).mono fun _ _ k => k.two (by rw [tx_toL, HP.cl_eq l hne, h])
theorem target_at {cl : Tx → Tx × Int} (HP : PathP cl) (w : World) (l m : Tx) (a : Tx) (z : Int) (h : targetL l m = (a, z)) (hl : l.length ≤ 1000) (hm : m.length ≤ 1000) : Calls Try.prog 15 #[.string (tx l), .string (tx m)] w (Ans2 w a z) :=
  (HP.target w (tx l) (tx m) (by rw [tx_size]; unfold maxLen; omega) (by rw [tx_size m]; omega)).mono fun _ _ k => k.two (by rw [tx_toL, tx_toL m, h])
theorem under_at {cl : Tx → Tx × Int} (HP : PathP cl) (w : World) (l m : Tx) (r : Bool) (h : underT l m = r) (hl : l.length ≤ 1000) (hm : m.length ≤ 1000) : Calls Try.prog 23 #[.string (tx l), .string (tx m)] w fun e w' => e = .returned (.bool r) ∧ Fr (fun _ => False) w w' := by
  have := HP.under w (tx l) (tx m) (by rw [tx_size]; omega) (by rw [tx_size m]; omega)
  rwa [tx_toL, tx_toL m, h] at this
set_option maxHeartbeats 8000000 in
theorem works_any {cl : Tx → Tx × Int} (HP : PathP cl) (w : World) : Calls Try.prog 14 #[] w fun e w' => e = .returned (.bool true) ∧ Fr (fun _ => False) w w' := by
  have H1 := Lib.hid (fun wx => clean_at HP wx [46, 47, 117, 115, 114, 47, 98, 105, 110, 47] [117, 115, 114, 47, 98, 105, 110] 0 (by decide) (by decide) (by decide))
  have H2 := Lib.hid (fun wx => clean_at HP wx [47, 101, 116, 99] [] 140 (by decide) (by decide) (by decide))
  have H3 := Lib.hid (fun wx => clean_at HP wx [97, 47, 46, 46, 47, 98] [] 140 (by decide) (by decide) (by decide))
  have H4 := Lib.hid (fun wx => target_at HP wx [117, 115, 114, 47, 98, 105, 110, 47, 120] [46, 46, 47, 108, 105, 98, 47, 121] [117, 115, 114, 47, 108, 105, 98, 47, 121] 0 (by decide) (by decide) (by decide))
  have H5 := Lib.hid (fun wx => under_at HP wx [97, 47, 98] [97] true (by decide) (by decide) (by decide))
  have H6 := Lib.hid (fun wx => under_at HP wx [97, 98] [97] false (by decide) (by decide) (by decide))
  clear HP
  go_enter Try.func14, Try.ntmps14
  go_wp2_with fail
  refine (H1.out _).mono ?_
  rintro e w1 ⟨⟨X1, rfl, hX1⟩, hF1⟩
  have K1 := Lib.hid hF1
  clear hF1
  go_wp2_with fail
  refine (H2.out _).mono ?_
  rintro e w2 ⟨⟨X2, rfl, hX2⟩, hF2⟩
  have K2 := Lib.hid (K1.out.trans hF2 (fun _ _ e => e))
  clear hF2
  go_wp2_with fail
  refine (H3.out _).mono ?_
  rintro e w3 ⟨⟨X3, rfl, hX3⟩, hF3⟩
  have K3 := Lib.hid (K2.out.trans hF3 (fun _ _ e => e))
  clear hF3
  go_wp2_with fail
  refine (H4.out _).mono ?_
  rintro e w4 ⟨⟨X4, rfl, hX4⟩, hF4⟩
  have K4 := Lib.hid (K3.out.trans hF4 (fun _ _ e => e))
  clear hF4
  go_wp2_with fail
  refine (H5.out _).mono ?_
  rintro e w5 ⟨rfl, hF5⟩
  have K5 := Lib.hid (K4.out.trans hF5 (fun _ _ e => e))
  clear hF5
  go_wp2_with fail
  refine (H6.out _).mono ?_
  rintro e w6 ⟨rfl, hF6⟩
  have K6 := Lib.hid (K5.out.trans hF6 (fun _ _ e => e))
  clear hF6
  go_wp2_with fail
  go_ret
  exact ⟨rfl, K6.out⟩
end Go.Proofs.Ytldlonkaedjdpaa.pt
