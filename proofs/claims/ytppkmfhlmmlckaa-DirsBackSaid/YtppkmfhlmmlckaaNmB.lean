/-
  Rows of names: slices that are read, slices of the call's own; a copy.
-/
import Derived.Test.YtppkmfhlmmlckaaNmA
import Derived.Deep.Slices
import Derived.Deep.Fields
import Derived.ChangeSame
import Derived.SizedLaws
namespace Go.Proofs.Ytppkmfhlmmlckaa.nm
set_option maxRecDepth 100000
open Go.RowKit Go.Maps Go.ChangeShapes Go.WideShapes Go.Deep
set_option maxRecDepth 100000

abbrev Nm := ByteArray × Int
abbrev zeroN : Value := .agg #[.string ⟨#[]⟩, .int .i64 0]
theorem infoN : (Try.prog.info? 41).map (fun i => (i.zero, i.size, i.bytes)) = some (some zeroN, 2, 24) := by kernel_rfl
/-- Names as cells. -/
def ncs : List Nm → List Value
  | [] => []
  | x :: r => .string x.1 :: .int .i64 x.2 :: ncs r
theorem ncs_length : ∀ l, (ncs l).length = l.length * 2
  | [] => rfl
  | x :: r => by simp only [ncs, List.length_cons, ncs_length r]; omega
theorem ncs_append : ∀ a b, ncs (a ++ b) = ncs a ++ ncs b
  | [], b => rfl
  | x :: r, b => by simp only [List.cons_append, ncs, ncs_append r b]
theorem ncs_get : ∀ (l : List Nm) (i : Nat) (x : Nm), l[i]? = some x → (ncs l)[i * 2]? = some (.string x.1) ∧ (ncs l)[i * 2 + 1]? = some (.int .i64 x.2)
  | [], i, x, h => by simp at h
  | y :: r, 0, x, h => by
    simp at h
    subst h
    exact ⟨rfl, rfl⟩
  | y :: r, i + 1, x, h => by
    have := ncs_get r i x (by simpa using h)
    rw [show (i + 1) * 2 = i * 2 + 1 + 1 by omega]
    simpa [ncs] using this
theorem ncs_one : ∀ l, ∀ u ∈ ncs l, u.oneCell' = true
  | [], u, h => by cases h
  | x :: r, u, h => by
    rcases List.mem_cons.1 h with rfl | h
    · rfl
    · rcases List.mem_cons.1 h with rfl | h
      · rfl
      · exact ncs_one r u h
theorem ncs_at {l : List Nm} {j : Nat} {u : Value} (h : (ncs l)[j]? = some u) : ∃ i x, l[i]? = some x ∧ ((j = i * 2 ∧ u = .string x.1) ∨ (j = i * 2 + 1 ∧ u = .int .i64 x.2)) := by
  have hj : j < l.length * 2 := by rw [← ncs_length]; exact (List.getElem?_eq_some_iff.1 h).1
  have hi : j / 2 < l.length := by omega
  obtain ⟨x, hx⟩ : ∃ x, l[j / 2]? = some x := ⟨_, List.getElem?_eq_getElem hi⟩
  obtain ⟨g0, g1⟩ := ncs_get l (j / 2) x hx
  have hm : j % 2 = 0 ∨ j % 2 = 1 := by omega
  refine ⟨j / 2, x, hx, ?_⟩
  rcases hm with hm | hm
  · have e : j = j / 2 * 2 := by omega
    rw [← e, h] at g0
    exact Or.inl ⟨e, Option.some.inj g0⟩
  · have e : j = j / 2 * 2 + 1 := by omega
    rw [← e, h] at g1
    exact Or.inr ⟨e, Option.some.inj g1⟩

/-- Texts and numbers that there are. -/
def WfN (l : List Nm) : Prop := ∀ x ∈ l, x.1.size ≤ maxLen ∧ -9223372036854775808 ≤ x.2 ∧ x.2 ≤ 9223372036854775807
/-- A slice of names, below block B. -/
structure RdN (w : World) (B : Nat) (A : Option Addr) (l : List Nm) : Prop where
  cells : l ≠ [] → ∃ blk off, A = some ⟨blk, off, none⟩ ∧ blk < B ∧ ∀ i x, l[i]? = some x → w.cell? ⟨blk, off + i * 2, none⟩ = some (.string x.1) ∧ w.cell? ⟨blk, off + i * 2 + 1, none⟩ = some (.int .i64 x.2)
  wf : WfN l
theorem RdN.still {w w' : World} {B : Nat} {A : Option Addr} {l : List Nm} (h : RdN w B A l) (hF : Fr (fun _ => False) w w') (hB : B ≤ w.heap.size) : RdN w' B A l := by
  refine ⟨fun hne => ?_, h.wf⟩
  obtain ⟨blk, off, e, hb, hc⟩ := h.cells hne
  have k : ∀ o v, w.cell? ⟨blk, o, none⟩ = some v → w'.cell? ⟨blk, o, none⟩ = some v := fun o v hv => (World.cell?_of_block (w := w) (w' := w') (a := ⟨blk, o, none⟩) (hF.block blk (by omega) id)).trans hv
  exact ⟨blk, off, e, hb, fun i x hi => ⟨k _ _ (hc i x hi).1, k _ _ (hc i x hi).2⟩⟩
theorem RdN.more {w : World} {B B' : Nat} {A : Option Addr} {l : List Nm} (h : RdN w B A l) (hB : B ≤ B') : RdN w B' A l := ⟨fun hne => by
  obtain ⟨blk, off, e, hb, hc⟩ := h.cells hne
  exact ⟨blk, off, e, by omega, hc⟩, h.wf⟩
theorem RdN.nil (w : World) (B : Nat) (A : Option Addr) : RdN w B A [] := ⟨fun h => absurd rfl h, fun x hx => by cases hx⟩
theorem srcN {w : World} {B : Nat} {ad : Addr} {l : List Nm} (h : RdN w B (some ad) l) : ∀ j u, (ncs l)[j]? = some u → w.cell? (ad.add j) = some u := by
  intro j u hu
  obtain ⟨i, x, hx, hc⟩ := ncs_at hu
  obtain ⟨blk, off, e, _, hcell⟩ := h.cells (by rintro rfl; simp at hx)
  cases e
  rw [add_plain]
  rcases hc with ⟨rfl, rfl⟩ | ⟨rfl, rfl⟩
  · exact (hcell i x hx).1
  · rw [← Nat.add_assoc]
    exact (hcell i x hx).2

/-- A slice of the call's own that holds these names. -/
def OwnN (w : World) (base : Nat) (v : Value) (l : List Nm) : Prop := w.ownsRow base 41 2 v l.length (ncs l)
theorem OwnN.kept {w w' : World} {base : Nat} {v : Value} {l : List Nm} (h : OwnN w base v l) (hF : Fr (fun _ => False) w w') : OwnN w' base v l := by
  obtain ⟨h1, h2⟩ := h
  refine ⟨h1, ?_⟩
  rcases h2 with h2 | ⟨g, cap, cur, hv, hg, hh, r⟩
  · exact Or.inl h2
  · exact Or.inr ⟨g, cap, cur, hv, hg, (hF.block g (Array.getElem?_eq_some_iff.1 hh).1 id).trans hh, r⟩
theorem OwnN.rd {w : World} {base cap : Nat} {A : Option Addr} {l : List Nm} (h : OwnN w base (.slice A l.length cap) l) (hw : WfN l) : RdN w w.heap.size A l := by
  refine ⟨fun hne => ?_, hw⟩
  obtain ⟨_, h2⟩ := h
  rcases h2 with ⟨_, h0⟩ | ⟨g, cap', cur, hv, hg, hh, _, _, _, ht⟩
  · exact absurd (List.eq_nil_of_length_eq_zero h0) hne
  · cases hv
    have key : ∀ j u, (ncs l)[j]? = some u → w.cell? ⟨g, 0 + j, none⟩ = some u := fun j u hj => by
      rw [cellAt hh, Nat.zero_add, ← Array.getElem?_toList]
      have h1 : (cur.toList.take (l.length * 2))[j]? = some u := by rw [ht, hj]
      rw [List.getElem?_take] at h1
      split at h1
      · exact h1
      · cases h1
    exact ⟨g, 0, rfl, (Array.getElem?_eq_some_iff.1 hh).1, fun i x hi => ⟨key _ _ (ncs_get l i x hi).1, by rw [Nat.add_assoc]; exact key _ _ (ncs_get l i x hi).2⟩⟩
theorem OwnN.shape {w : World} {base n : Nat} {v : Value} {l : List Nm} {xs : List Value} (hn : n = l.length) (hx : xs = ncs l) (h : w.ownsRow base 41 2 v n xs) : ∃ A cap, v = .slice A l.length cap ∧ OwnN w base (.slice A l.length cap) l := by
  subst hn
  subst hx
  obtain ⟨h1, h2⟩ := id h
  rcases h2 with ⟨rfl, h0⟩ | ⟨g, cap, cur, rfl, hg, hh, r⟩
  · refine ⟨none, 0, by rw [h0], ?_⟩
    rw [h0]
    exact h
  · exact ⟨_, cap, rfl, h⟩
theorem ownN_made (w : World) : OwnN (w.alloc (.cells #[] 41)) w.heap.size (.slice (some ⟨w.heap.size, 0, none⟩) 0 0) [] := World.ownsRow_made w #[] 0 (Nat.le_refl _) (Nat.zero_le _) (by simp)

/-- A new slice of these names. -/
def NewN (w : World) (l : List Nm) (e : Ending) (w' : World) : Prop := ∃ A cap, e = .returned (.slice A l.length cap) ∧ OwnN w' w.heap.size (.slice A l.length cap) l ∧ Fr (fun _ => False) w w'

set_option maxHeartbeats 1000000 in
theorem names_any (w : World) (A : Option Addr) (cap : Nat) (l : List Nm) (hr : RdN w w.heap.size A l) (hA : A = none → cap = 0) (hl : l.length ≤ 5864062014805) :
    Calls Try.prog 9 #[.slice A l.length cap] w (NewN w l) := by
  obtain ⟨i0, hi, hz0, hz1, hz2⟩ := info_parts infoN
  have hO : (w.alloc (.cells #[] 41)).ownsRow w.heap.size 41 2 (.slice (some ⟨w.heap.size, 0, none⟩) 0 0) 0 [] := World.ownsRow_made w #[] 0 (Nat.le_refl _) (Nat.zero_le _) (by simp)
  have hF : Fr (fun _ => False) w (w.alloc (.cells #[] 41)) := (Fr.refl _ w).alloc _
  have HO := Lib.hid hO
  have HF := Lib.hid hF
  have HI := Lib.hid (⟨hi, hz0, hz1, hz2⟩ : _ ∧ _ ∧ _ ∧ _)
  clear hO hF hi hz0 hz1 hz2
  obtain ⟨n, hn⟩ : ∃ n, n = l.length := ⟨_, rfl⟩
  rw [← hn] at hl ⊢
  have HN := Lib.hid hn
  cases A with
  | none =>
    have h0 : l = [] := by
      apply Decidable.byContradiction
      intro hne
      obtain ⟨_, _, e, _⟩ := hr.cells hne
      cases e
    obtain rfl : cap = 0 := hA rfl
    obtain rfl : n = 0 := by rw [hn, h0]; rfl
    have H0 := Lib.hid h0
    clear hr hA hl hn h0
    go_enter Try.func9, Try.ntmps9
    go_wp2_with (at_builtin; refine wpList_append_own_none rfl (.tmp 3) (.tmp 4) 23 rfl w.heap.size 41 i0 2 Try.underlying23 HI.out.1 _ 0 [] rfl HO.out rfl ?_)
    go_ret
    have h := HO.out
    refine ⟨some ⟨w.heap.size, 0, none⟩, 0, by rw [H0.out]; rfl, ?_, HF.out⟩
    rw [H0.out]
    exact h
  | some ad =>
    have hr1 := hr.still HF.out (Nat.le_refl _)
    have HS := Lib.hid (srcN hr1)
    clear hr hA hn hr1
    go_enter Try.func9, Try.ntmps9
    go_wp2_with (at_builtin; refine wpList_append_own _ rfl (.tmp 3) (.tmp 4) 23 rfl w.heap.size 41 i0 zeroN 2 24 Try.underlying23 HI.out.1 HI.out.2.1 HI.out.2.2.1 HI.out.2.2.2 rfl (by omega) _ 0 [] rfl HO.out ad n cap (ncs l) rfl ?c1 HS.out (ncs_one l) ?c2 ?c3 ?c4 ?c5)
    case c1 => rw [ncs_length, ← HN.out]
    case c2 => unfold maxLen; omega
    case c3 => omega
    case c4 => simp
    case c5 =>
      intro v' w1 hown hgrow hnil
      have hfr := HF.out.grown hgrow (fun k hk => Or.inr (by simp [Value.ownBlock] at hk; omega))
      have HW := Lib.hid (⟨hown, hfr⟩ : _ ∧ _)
      clear hown hgrow hnil hfr
      go_wp2
      go_ret
      obtain ⟨A', cap', rfl, ho⟩ := OwnN.shape (l := l) (by have := HN.out; omega) rfl HW.out.1
      exact ⟨A', cap', rfl, ho, HW.out.2⟩
end Go.Proofs.Ytppkmfhlmmlckaa.nm
