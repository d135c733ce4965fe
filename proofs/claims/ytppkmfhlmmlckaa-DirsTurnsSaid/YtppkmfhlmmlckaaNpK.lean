/-
  The law's works, and all that is asked of the program's functions.
-/
import Derived.Test.YtppkmfhlmmlckaaNpF
import Derived.Test.YtppkmfhlmmlckaaNpI
import Derived.Test.YtppkmfhlmmlckaaNpJ
namespace Go.Proofs.Ytppkmfhlmmlckaa.nm
set_option maxRecDepth 100000
open Go.RowKit Go.Maps
set_option maxRecDepth 100000

abbrev tA : ByteArray := ⟨#[97]⟩
abbrev tB : ByteArray := ⟨#[98]⟩
theorem nm_a : nmB tA = true := by unfold nmB; rw [toL]; decide
theorem nm_b : nmB tB = true := by unfold nmB; rw [toL]; decide
theorem chk_dots : chkZ ⟨#[46, 46]⟩ = 71 := chkZ_no (by unfold nmB; rw [toL]; decide)
theorem right_a : RightN [(tA, 258)] := FolTo.right (FolTo.next (FolTo.zero _) (x := (tA, 258)) rfl (by
  rw [folB_iff]
  exact ⟨by decide, by unfold itB; rw [nm_a]; decide, rfl⟩))
theorem pr_a : prL [(tA, 258)] = [1, 97, 2, 1] := by
  unfold prL enB
  simp only [List.flatMap_cons, List.flatMap_nil, toL]
  decide
theorem add_b : addZ [] tB 1 = 0 := by
  rcases addZ_cases [] tB 1 with ⟨h, _⟩ | ⟨_, h, _⟩ | ⟨_, _, h, _⟩ | ⟨_, _, _, h, _⟩ | ⟨_, _, _, _, h⟩
  · rw [nm_b] at h; cases h
  · cases h
  · simp at h
  · simp at h
  · exact h
theorem ins_b : insL [] tB 1 = [(tB, 1)] := rfl
theorem first_a : firstI [(tB, 1)] tA = 1 := by
  unfold firstI
  rw [if_neg (by decide)]
  rfl
theorem add_a : addZ [(tB, 1)] tA 2 = 0 := by
  rcases addZ_cases [(tB, 1)] tA 2 with ⟨h, _⟩ | ⟨_, h, _⟩ | ⟨_, _, h, _⟩ | ⟨_, _, _, h, _⟩ | ⟨_, _, _, _, h⟩
  · rw [nm_a] at h; cases h
  · cases h
  · rw [first_a] at h; simp at h
  · simp at h
  · exact h
theorem ins_a : insL [(tB, 1)] tA 2 = [(tA, 2), (tB, 1)] := by
  have h : firstG [(tB, 1)] tA = 0 := by
    unfold firstG
    rw [if_neg (by unfold leS; rw [toL, toL]; decide)]
  unfold insL
  rw [h]
  rfl
theorem wf_one {s : ByteArray} {n : Int} (hs : s.size ≤ maxLen) (hn : -9223372036854775808 ≤ n ∧ n ≤ 9223372036854775807) : WfN [(s, n)] := fun x hx => by
  obtain rfl := List.mem_singleton.1 hx
  exact ⟨hs, hn⟩

set_option maxHeartbeats 4000000 in
theorem pworks (w : World) : Calls Try.prog 18 #[] w fun e w' => e = .returned (.bool true) ∧ Fr (fun _ => False) w w' := by
  have hF0 := (Fr.refl (fun _ => False) w).alloc (objX tA 258)
  have hA1 : tA.size ≤ maxLen := by decide
  have hB1 : tB.size ≤ maxLen := by decide
  have hin : In (w.alloc (objX tA 258)) (some ⟨w.heap.size, 0, none⟩) 1 [(tA, 258)] := by
    refine ⟨⟨fun _ => ⟨w.heap.size, 0, rfl, ?_, fun i x hi => ?_⟩, wf_one hA1 (by omega)⟩, (fun e => by cases e), Nat.le_refl _, by decide⟩
    · rw [World.size_alloc]; omega
    · rcases i with _ | i
      · simp at hi
        subst hi
        rw [cellAt (heap_alloc_new w _), cellAt (heap_alloc_new w _)]
        exact ⟨rfl, rfl⟩
      · simp at hi
  have HPR := Lib.hid (pprint (w.alloc (objX tA 258)) (some ⟨w.heap.size, 0, none⟩) 1 [(tA, 258)] hin)
  have HF0 := Lib.hid hF0
  have HAB := Lib.hid (fun (w2 : World) => padd w2 none 0 [] tB 1 ⟨RdN.nil _ _ _, fun _ => rfl, Nat.le_refl _, by simp⟩ hB1 (by omega))
  rw [add_b, ins_b] at HAB
  have HAA := Lib.hid (fun (w2 : World) (A : Option Addr) (cap : Nat) (h : In w2 A cap [(tB, 1)]) => padd w2 A cap [(tB, 1)] tA 2 h hA1 (by omega))
  rw [add_a, ins_a] at HAA
  have HCK := Lib.hid (fun (w2 : World) => pcheck w2 ⟨#[46, 46]⟩ (by decide))
  rw [chk_dots] at HCK
  clear hF0 hin
  go_enter Try.func18, Try.ntmps18
  go_wp2_with fail
  refine HPR.out.mono ?_
  rintro e w1 (⟨_, A1, c1, rfl, ho1, _, _, hF1⟩ | ⟨hno, _⟩)
  case inr => exact absurd right_a hno
  rw [pr_a] at ho1 ⊢
  have HR1 := Lib.hid (Own.rd ho1)
  have HF1 := Lib.hid (HF0.out.trans hF1 (fun _ _ e => e))
  clear ho1 hF1 HPR
  go_wp2_with fail
  refine (HAB.out w1).mono ?_
  rintro e w2 (⟨_, A2, c2, rfl, ho2, hn2, hc2, hF2⟩ | ⟨hz, _⟩)
  case inr => exact absurd rfl hz
  have HI2 := Lib.hid (⟨OwnN.rd ho2 (wf_one hB1 (by omega)), hn2, hc2, by decide⟩ : In w2 A2 c2 [(tB, 1)])
  have HF2 := Lib.hid hF2
  clear ho2 hn2 hc2 hF2
  go_wp2_with fail
  refine (HAA.out w2 A2 c2 HI2.out).mono ?_
  rintro e w3 (⟨_, A3, c3, rfl, ho3, _, _, hF3⟩ | ⟨hz, _⟩)
  case inr => exact absurd rfl hz
  have HR3 := Lib.hid (OwnN.rd ho3 (fun x hx => by
    rcases List.mem_cons.1 hx with rfl | hx
    · exact ⟨hA1, by decide, by decide⟩
    · obtain rfl := List.mem_singleton.1 hx
      exact ⟨hB1, by decide, by decide⟩))
  have HF13 := Lib.hid (HF2.out.trans hF3 (fun _ _ e => e))
  have HF3 := Lib.hid (HF1.out.trans HF13.out (fun _ _ e => e))
  clear ho3 hF3
  have HSB := Lib.hid (same_any (w3.alloc (.cells #[.int .u8 1, .int .u8 97, .int .u8 2, .int .u8 1] 5)) A1 (some ⟨w3.heap.size, 0, none⟩) (w3.alloc (.cells #[.int .u8 1, .int .u8 97, .int .u8 2, .int .u8 1] 5)).heap.size (w3.alloc (.cells #[.int .u8 1, .int .u8 97, .int .u8 2, .int .u8 1] 5)).heap.size c1 4 [1, 97, 2, 1] [1, 97, 2, 1] (rd_fr HR1.out (HF13.out.alloc _)) (fun _ => ⟨w3.heap.size, 0, rfl, by rw [World.size_alloc]; omega, fun j x hj => by
    rw [cellAt (heap_alloc_new _ _), Nat.zero_add]
    rcases j with _ | _ | _ | _ | j
    · simp at hj; subst hj; rfl
    · simp at hj; subst hj; rfl
    · simp at hj; subst hj; rfl
    · simp at hj; subst hj; rfl
    · simp at hj⟩) (by decide))
  rw [decide_eq_true rfl] at HSB
  have HSN : Hid (∀ w4, Fr (fun _ => False) w3 w4 → Calls Try.prog 14 #[.slice A3 2 c3, .slice (some ⟨w4.heap.size, 0, none⟩) 2 2] (w4.alloc (.cells #[.string tA, .int .i64 2, .string tB, .int .i64 1] 41)) fun e w' => e = .returned (.bool true) ∧ Calm (w4.alloc (.cells #[.string tA, .int .i64 2, .string tB, .int .i64 1] 41)) w') := Lib.hid fun w4 hF => by
    have hFa := hF.alloc (.cells #[.string tA, .int .i64 2, .string tB, .int .i64 1] 41)
    have h := sameN_any (w4.alloc (.cells #[.string tA, .int .i64 2, .string tB, .int .i64 1] 41)) A3 (some ⟨w4.heap.size, 0, none⟩) (w4.alloc (.cells #[.string tA, .int .i64 2, .string tB, .int .i64 1] 41)).heap.size (w4.alloc (.cells #[.string tA, .int .i64 2, .string tB, .int .i64 1] 41)).heap.size c3 2 [(tA, 2), (tB, 1)] [(tA, 2), (tB, 1)] (rdN_fr HR3.out hFa) ⟨fun _ => ⟨w4.heap.size, 0, rfl, by rw [World.size_alloc]; omega, fun i x hi => by
      rw [cellAt (heap_alloc_new _ _), cellAt (heap_alloc_new _ _)]
      rcases i with _ | _ | i
      · simp at hi; subst hi; exact ⟨rfl, rfl⟩
      · simp at hi; subst hi; exact ⟨rfl, rfl⟩
      · simp at hi⟩, HR3.out.wf⟩ (Nat.le_refl _) (Nat.le_refl _) (by decide)
    rwa [decide_eq_true rfl] at h
  have HFa := Lib.hid ((Fr.refl (fun _ => False) w3).alloc (.cells #[.int .u8 1, .int .u8 97, .int .u8 2, .int .u8 1] 5))
  clear hA1 hB1
  go_wp2_with fail
  refine HSB.out.mono ?_
  rintro e w4 ⟨rfl, hC4⟩
  have HF4 := Lib.hid (HFa.out.trans hC4.fr (fun _ _ e => e))
  clear hC4
  go_wp2_with fail
  refine (HSN.out w4 HF4.out).mono ?_
  rintro e w5 ⟨rfl, hC5⟩
  have HF5 := Lib.hid (((HF3.out.trans HF4.out (fun _ _ e => e)).alloc (.cells #[.string tA, .int .i64 2, .string tB, .int .i64 1] 41)).trans hC5.fr (fun _ _ e => e))
  clear hC5
  go_wp2_with fail
  refine (HCK.out w5).mono ?_
  rintro e w6 ⟨rfl, rfl⟩
  go_wp2_with fail
  go_ret
  exact ⟨rfl, HF5.out⟩

theorem dirs_all : Dirs where
  check := fun w s hs => (pcheck w s hs).mono fun e w' h => ⟨h.1, by rw [← h.2]; exact Fr.refl _ _⟩
  look := fun w A cap l s hl hs => plook w A cap l s hl.rd (by have := hl.len; omega) hs
  add := fun w A cap l s n hl hs hn => padd w A cap l s n hl hs hn
  remove := fun w A cap l s hl hs => premove w A cap l s hl hs
  print := fun w A cap l hl => pprint w A cap l hl
  parse := fun w A cap b hr _ hc hb => pparse w A cap b hr hc hb
  works := pworks
end Go.Proofs.Ytppkmfhlmmlckaa.nm
