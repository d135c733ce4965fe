/-
  base.Ints: the picks, copied.
-/
import Derived.Test.YtbmbibepcnpngaaLim
import Derived.Test.YtbmbibepcnpngaaByI
namespace Go.Proofs.Ytbmbibepcnpngaa.play
open Go.RowKit Go.Maps

/-- The picks anew. -/
def NewP (w : World) (P : List Int) (e : Ending) (w' : World) : Prop := ∃ v, e = .returned v ∧ (∀ bv, bv < w.heap.size → Picks w' bv v P) ∧ Fr (fun _ => False) w w'

theorem NewP.of_own {w w' : World} {P : List Int} {v : Value} {n : Nat} {xs : List Value} (hn : n = P.length) (hx : xs = is P) (hl : P.length ≤ 17592186044416) (h : w'.ownsRow w.heap.size 3 1 v n xs) (hF : Fr (fun _ => False) w w') : NewP w P (.returned v) w' := by
  obtain ⟨A, cap, rfl, ho⟩ := OwnI.shape hn hx h
  refine ⟨_, rfl, fun bv hbv => ⟨A, cap, rfl, by omega, fun hne => ?_⟩, hF⟩
  obtain ⟨h1, h2⟩ := ho
  rcases h2 with ⟨_, h0⟩ | ⟨g, cap', cur, hv, hg, hh, _, _, _, ht⟩
  · exact absurd (List.eq_nil_of_length_eq_zero h0) hne
  · cases hv
    refine ⟨g, 0, rfl, (Array.getElem?_eq_some_iff.1 hh).1, by omega, fun j x hj => ?_⟩
    rw [cellAt hh, Nat.zero_add, ← Array.getElem?_toList]
    have h3 : (cur.toList.take (P.length * 1))[j]? = some (.int .i64 x) := by rw [ht, is_get, hj]; rfl
    rw [List.getElem?_take] at h3
    split at h3
    · exact h3
    · cases h3

theorem srcI {w : World} {B : Nat} {ad : Addr} {l : List Int} (h : RdI w B (some ad) l) : ∀ j u, (is l)[j]? = some u → w.cell? (ad.add j) = some u := by
  intro j u hu
  have hne : l ≠ [] := by
    rintro rfl
    simp [is] at hu
  obtain ⟨blk, off, e, _, hc⟩ := h.1 hne
  cases e
  rw [is_get] at hu
  cases hj : l[j]? with
  | none => rw [hj] at hu; cases hu
  | some x =>
    rw [hj] at hu
    cases hu
    rw [add_plain]
    exact hc j x hj

set_option maxHeartbeats 1000000 in
theorem ints_any (w : World) (A : Option Addr) (cap : Nat) (l : List Int) (hr : RdI w w.heap.size A l) (hA : A = none → cap = 0) (hl : l.length ≤ 17592186044416) :
    Calls Try.prog 26 #[.slice A l.length cap] w (NewP w l) := by
  obtain ⟨i0, hi, hz0, hz1, hz2⟩ := info_parts infoI
  have hO : (w.alloc (.cells #[] 3)).ownsRow w.heap.size 3 1 (.slice (some ⟨w.heap.size, 0, none⟩) 0 0) 0 [] := World.ownsRow_made w #[] 0 (Nat.le_refl _) (Nat.zero_le _) (by simp)
  have hF : Fr (fun _ => False) w (w.alloc (.cells #[] 3)) := (Fr.refl _ w).alloc _
  have HO := Lib.hid hO
  have HF := Lib.hid hF
  have HI := Lib.hid (⟨hi, hz0, hz1, hz2⟩ : _ ∧ _ ∧ _ ∧ _)
  have HL := Lib.hid hl
  clear hO hF hi hz0 hz1 hz2
  obtain ⟨n, hn⟩ : ∃ n, n = l.length := ⟨_, rfl⟩
  rw [← hn]
  have hn' : n ≤ 17592186044416 := by omega
  have HN := Lib.hid hn
  cases A with
  | none =>
    have h0 : l = [] := by
      apply Decidable.byContradiction
      intro hne
      obtain ⟨_, _, e, _⟩ := hr.1 hne
      cases e
    obtain rfl : cap = 0 := hA rfl
    obtain rfl : n = 0 := by rw [hn, h0]; rfl
    have H0 := Lib.hid h0
    clear hr hA hl hn h0
    go_enter Try.func26, Try.ntmps26
    go_wp2_with (at_builtin; refine wpList_append_own_none rfl (.tmp 3) (.tmp 4) 34 rfl w.heap.size 3 i0 1 Try.underlying34 HI.out.1 _ 0 [] rfl HO.out rfl ?_)
    go_ret
    exact NewP.of_own HN.out (by rw [H0.out]; rfl) HL.out HO.out HF.out
  | some ad =>
    have hr1 := hr.still HF.out (Nat.le_refl _)
    have HS := Lib.hid (srcI hr1)
    clear hr hA hl hn hr1
    go_enter Try.func26, Try.ntmps26
    go_wp2_with (at_builtin; refine wpList_append_own _ rfl (.tmp 3) (.tmp 4) 34 rfl w.heap.size 3 i0 (.int .i64 0) 1 8 Try.underlying34 HI.out.1 HI.out.2.1 HI.out.2.2.1 HI.out.2.2.2 rfl (by omega) _ 0 [] rfl HO.out ad n cap (is l) rfl ?c1 HS.out (is_one l) ?c2 ?c3 ?c4 ?c5)
    case c1 => rw [is_length, ← HN.out]; omega
    case c2 => unfold maxLen; omega
    case c3 => omega
    case c4 => simp
    case c5 =>
      intro v' w1 hown hgrow hnil
      have hfr := HF.out.grown hgrow (fun k hk => Or.inr (by simp [Value.ownBlock] at hk; omega))
      have HW := Lib.hid (⟨hown, hfr⟩ : _ ∧ _)
      clear hown hgrow hnil hfr
      go_wp2
      go_ret
      exact NewP.of_own HN.out rfl HL.out HW.out.1 HW.out.2
end Go.Proofs.Ytbmbibepcnpngaa.play
