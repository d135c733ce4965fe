/-
  The document's Get; Clone; Put, the program's and the document's.
-/
import Derived.Test.YtnibbopdjeagoaaBitsF
namespace Go.Proofs.Ytnibbopdjeagoaa
set_option maxRecDepth 100000
open Go.RowKit Go.Maps

/-! ### Clone -/
set_option maxHeartbeats 1000000 in
theorem clone_any (w : World) (A : Option Addr) (n cap B : Nat) (l : List UInt8) (hr : Rd w B A l) (hn : l.length = n) (hB : B ≤ w.heap.size) (hA : A = none → cap = 0) (hl : n ≤ 140737488351232) :
    Calls Try.prog 45 #[.slice A n cap] w (NewB w l) := by
  obtain ⟨i0, hi, hz0, hz1, hz2⟩ := info_parts infoB
  have hO : (w.alloc (.cells #[] 5)).ownsRow w.heap.size 5 1 (.slice (some ⟨w.heap.size, 0, none⟩) 0 0) 0 [] := World.ownsRow_made w #[] 0 (Nat.le_refl _) (Nat.zero_le _) (by simp)
  have hF : Fr (fun _ => False) w (w.alloc (.cells #[] 5)) := (Fr.refl _ w).alloc _
  have HO := Lib.hid hO
  have HF := Lib.hid hF
  have HI := Lib.hid (⟨hi, hz0, hz1, hz2⟩ : _ ∧ _ ∧ _ ∧ _)
  have q22 : ∀ (w : World) (a : Option Addr) (n c n' c' : Nat), (binOp .eql 39 (.slice a n c) (.slice none n' c')).run Try.prog w = .ok (.bool a.isNone) w := fun w a n c n' c' => Lib.run_eql_slice_nil w _ _ a n c n' c' Try.underlying39
  clear hO hF hi hz0 hz1 hz2
  have HN := Lib.hid hn
  cases A with
  | none =>
    have h0 : l = [] := by
      apply Decidable.byContradiction
      intro hne
      obtain ⟨_, _, e, _⟩ := hr hne
      cases e
    obtain rfl : cap = 0 := hA rfl
    obtain rfl : n = 0 := by rw [← hn, h0]; rfl
    have H0 := Lib.hid h0
    clear hr hA hl hn h0
    go_enter Try.func45, Try.ntmps45
    go_wp2_with fail
    go_ret
    rw [H0.out]
    exact ⟨none, 0, rfl, ⟨rfl, Or.inl ⟨rfl, rfl⟩⟩, Fr.refl _ _⟩
  | some ad =>
    have hr1 := hr.still HF.out hB
    have HS := Lib.hid hr1.src
    clear hr hA hn hr1
    go_enter Try.func45, Try.ntmps45
    go_wp2_with (at_builtin; refine wpList_append_own _ rfl (.tmp 5) (.tmp 6) 39 rfl w.heap.size 5 i0 (.int .u8 0) 1 1 Try.underlying39 HI.out.1 HI.out.2.1 HI.out.2.2.1 HI.out.2.2.2 rfl (by omega) _ 0 [] rfl HO.out ad n cap (bs l) rfl ?c1 HS.out (bs_one l) ?c2 ?c3 ?c4 ?c5)
    case c1 => rw [bs_length, HN.out]; omega
    case c2 => unfold maxLen; omega
    case c3 => omega
    case c4 => simp
    case c5 =>
      intro v' w1 hown hgrow hnil
      have hfr := HF.out.grown hgrow (fun k hk => Or.inr (by simp [Value.ownBlock] at hk; omega))
      have HW := Lib.hid (⟨hown, hfr, hnil⟩ : _ ∧ _ ∧ _)
      clear hown hgrow hnil hfr
      go_wp2
      go_ret
      exact NewB.of_own HN.out.symm rfl HW.out.2.2 HW.out.1 HW.out.2.1

/-- Bytes that a call made, and no error. -/
def NewB2 (w : World) (l : List UInt8) (e : Ending) (w' : World) : Prop :=
  ∃ A cap, e = .returned (.tuple #[.slice A l.length cap, .int .i64 0]) ∧ Own w' w.heap.size (.slice A l.length cap) l ∧ (A = none → cap = 0) ∧ Fr (fun _ => False) w w'

theorem own_none {w : World} {base cap n : Nat} {A : Option Addr} {l : List UInt8} (h : Own w base (.slice A n cap) l) (hA : A = none) : cap = 0 := by
  subst hA
  obtain ⟨_, h2⟩ := h
  rcases h2 with ⟨e, _⟩ | ⟨g, cap', cur, hv, _⟩
  · cases e; rfl
  · cases hv

end Go.Proofs.Ytnibbopdjeagoaa
