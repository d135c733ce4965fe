/-
  Steps, one behind the other.
-/
import Derived.Test.YtflapnbpaodhaaaGreatDoorHdP
namespace Go.Proofs.YtflapnbpaodhaaaGreatDoor.hd
set_option maxRecDepth 100000
open Go.RowKit Go.Maps ds

/-- Steps that are taken up to the first that is not: Q of the answer and the world. -/
def Runs : List Value → World → (Int → World → Prop) → Prop
  | [], w, Q => Q 0 w
  | v :: vs, w, Q => ∃ f caps, v = .func (.func f) #[] caps ∧ ((f = 64 ∧ ∃ a b, caps = #[a, b]) ∨ (f = 55 ∧ ∃ a b, caps = #[a, b])) ∧
      Calls Tryz.prog f caps w fun e w' => ∃ z, e = .returned (.int .i64 z) ∧ Keep2 w w' ∧ (z ≠ 0 → Q z w') ∧ (z = 0 → Runs vs w' Q)

set_option maxHeartbeats 4000000 in
theorem run_any (w : World) (vs : List Value) (Q : Int → World → Prop) (blk off cap : Nat) (hR : Runs vs w Q) (hT : Ty w 88 blk) (hc : ∀ i v, vs[i]? = some v → w.cell? ⟨blk, off + i, none⟩ = some v) (hn : vs.length ≤ 1000) :
    Calls Tryz.prog 35 #[.slice (some ⟨blk, off, none⟩) vs.length cap] w fun e w' => ∃ z, e = .returned (.int .i64 z) ∧ Q z w' := by
  obtain ⟨n, hn'⟩ : ∃ n, n = vs.length := ⟨_, rfl⟩
  rw [← hn'] at hn ⊢
  have HR := Lib.hid (⟨hR, Keep2.refl w⟩ : Runs (vs.drop 0) w Q ∧ Keep2 w w)
  have HC := Lib.hid hc
  have HT := Lib.hid hT
  have HLEN := Lib.hid hn'
  clear hR hc hT hn'
  go_enter Tryz.func35, Tryz.ntmps35
  go_wp2_with fail
  go_loopw [8] (fun v wr => ∃ k : Nat, k ≤ n ∧ v = .int .i64 k ∧ Hid (Runs (vs.drop k) wr Q ∧ Keep2 w wr)) (fun v _ => n - (intOf v).toNat)
  case atStart => exact ⟨0, Nat.zero_le _, rfl, HR⟩
  case round =>
    obtain ⟨k, hk, rfl, HK⟩ := hrel
    by_cases hlt : k < n
    · have hkl : k < vs.length := by have := HLEN.out; omega
      obtain ⟨x, hx⟩ : ∃ x, vs[k]? = some x := ⟨_, List.getElem?_eq_getElem hkl⟩
      have hdrop : vs.drop k = x :: vs.drop (k + 1) := by
        rw [List.drop_eq_getElem_cons hkl]
        rw [List.getElem?_eq_getElem hkl] at hx
        cases hx
        rfl
      have c0 := (cell_keep2 HK.out.2 HT.out (by decide) (off + k)).trans (HC.out k x hx)
      obtain ⟨f, caps, rfl, hf, hcall⟩ : ∃ f caps, x = .func (.func f) #[] caps ∧ ((f = 64 ∧ ∃ a b, caps = #[a, b]) ∨ (f = 55 ∧ ∃ a b, caps = #[a, b])) ∧ Calls Tryz.prog f caps wr fun e w' => ∃ z, e = .returned (.int .i64 z) ∧ Keep2 wr w' ∧ (z ≠ 0 → Q z w') ∧ (z = 0 → Runs (vs.drop (k + 1)) w' Q) := by
        have h := HK.out.1
        rw [hdrop] at h
        exact h
      have HCALL := Lib.hid hcall
      clear hx hdrop hkl hcall
      rcases hf with ⟨rfl, a, b, rfl⟩ | ⟨rfl, a, b, rfl⟩
      all_goals
        go_wp2_with fail
        refine HCALL.out.mono ?_
        rintro e w4 ⟨z, rfl, hK4, hq, hr⟩
        by_cases hz : z = 0
        · subst hz
          have HK4 := Lib.hid (⟨hr rfl, HK.out.2.trans hK4⟩ : _ ∧ _)
          clear hq hr hK4
          go_wp2_with fail
          go_roundw
          case rel => exact ⟨k + 1, by omega, by go_num, HK4⟩
          case measure => simp [intOf]; omega
        · have HQ := Lib.hid (hq hz)
          have hz' : (z != 0) = true := by simpa using hz
          clear hq hr hK4
          go_wp2_with fail
          go_ret
          exact ⟨z, rfl, HQ.out⟩
    · obtain rfl : k = n := by omega
      have HQ : Hid (Q 0 wr) := Lib.hid (by
        have h := HK.out.1
        rw [List.drop_eq_nil_of_le (by have := HLEN.out; omega)] at h
        exact h)
      go_wp2_with fail
      go_ret
      exact ⟨0, rfl, HQ.out⟩
end Go.Proofs.YtflapnbpaodhaaaGreatDoor.hd
