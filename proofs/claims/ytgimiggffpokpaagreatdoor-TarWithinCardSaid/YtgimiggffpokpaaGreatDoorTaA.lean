/-
  Entries in memory: slices that are read, slices of the call's own.
-/
import Derived.Test.YtgimiggffpokpaaGreatDoorTaM
import Derived.Test.YtgimiggffpokpaaGreatDoorPtA
import Derived.Test.YtgimiggffpokpaaGreatDoorHeA
import Derived.Deep.Slices
import Derived.Deep.Fields
import Derived.ChangeSame
import Derived.SizedLaws
namespace Go.Proofs.YtgimiggffpokpaaGreatDoor.ta
set_option maxRecDepth 100000
open Go.RowKit Go.Maps Go.ChangeShapes Go.WideShapes Go.Deep
open Go.Proofs.YtgimiggffpokpaaGreatDoor.pt (tx tx_toL tx_size)
set_option maxRecDepth 100000

abbrev zeroE : Value := .agg #[.string ⟨#[]⟩, .int .i64 0, .int .i64 0, .string ⟨#[]⟩]
theorem infoE : (Tryz.prog.info? 30).map (fun i => (i.zero, i.size, i.bytes)) = some (some zeroE, 4, 48) := by kernel_rfl
abbrev enV (x : En) : Value := .agg #[.string (tx x.path), .int .i64 x.kind, .int .i64 x.mode, .string (tx x.data)]
/-- Entries as cells. -/
def ecs : List En → List Value
  | [] => []
  | x :: r => .string (tx x.path) :: .int .i64 x.kind :: .int .i64 x.mode :: .string (tx x.data) :: ecs r
theorem ecs_length : ∀ l, (ecs l).length = l.length * 4
  | [] => rfl
  | x :: r => by simp only [ecs, List.length_cons, ecs_length r]; omega
theorem ecs_append : ∀ a b, ecs (a ++ b) = ecs a ++ ecs b
  | [], b => rfl
  | x :: r, b => by simp only [List.cons_append, ecs, ecs_append r b]
theorem ecs_get : ∀ (l : List En) (i : Nat) (x : En), l[i]? = some x → (ecs l)[i * 4]? = some (.string (tx x.path)) ∧ (ecs l)[i * 4 + 1]? = some (.int .i64 x.kind) ∧ (ecs l)[i * 4 + 2]? = some (.int .i64 x.mode) ∧ (ecs l)[i * 4 + 3]? = some (.string (tx x.data))
  | [], i, x, h => by simp at h
  | y :: r, 0, x, h => by
    simp at h
    subst h
    exact ⟨rfl, rfl, rfl, rfl⟩
  | y :: r, i + 1, x, h => by
    have := ecs_get r i x (by simpa using h)
    rw [show (i + 1) * 4 = i * 4 + 1 + 1 + 1 + 1 by omega]
    simpa [ecs] using this
theorem ecs_one : ∀ l, ∀ u ∈ ecs l, u.oneCell' = true
  | [], u, h => by cases h
  | x :: r, u, h => by
    simp only [ecs, List.mem_cons] at h
    rcases h with rfl | rfl | rfl | rfl | h
    · rfl
    · rfl
    · rfl
    · rfl
    · exact ecs_one r u h
theorem ecs_at {l : List En} {j : Nat} {u : Value} (h : (ecs l)[j]? = some u) : ∃ i x, l[i]? = some x ∧ ((j = i * 4 ∧ u = .string (tx x.path)) ∨ (j = i * 4 + 1 ∧ u = .int .i64 x.kind) ∨ (j = i * 4 + 2 ∧ u = .int .i64 x.mode) ∨ (j = i * 4 + 3 ∧ u = .string (tx x.data))) := by
  have hj : j < l.length * 4 := by rw [← ecs_length]; exact (List.getElem?_eq_some_iff.1 h).1
  have hi : j / 4 < l.length := by omega
  obtain ⟨x, hx⟩ : ∃ x, l[j / 4]? = some x := ⟨_, List.getElem?_eq_getElem hi⟩
  obtain ⟨g0, g1, g2, g3⟩ := ecs_get l (j / 4) x hx
  have hm : j % 4 = 0 ∨ j % 4 = 1 ∨ j % 4 = 2 ∨ j % 4 = 3 := by omega
  refine ⟨j / 4, x, hx, ?_⟩
  rcases hm with hm | hm | hm | hm
  · have e : j = j / 4 * 4 := by omega
    rw [← e, h] at g0
    exact Or.inl ⟨e, Option.some.inj g0⟩
  · have e : j = j / 4 * 4 + 1 := by omega
    rw [← e, h] at g1
    exact Or.inr (Or.inl ⟨e, Option.some.inj g1⟩)
  · have e : j = j / 4 * 4 + 2 := by omega
    rw [← e, h] at g2
    exact Or.inr (Or.inr (Or.inl ⟨e, Option.some.inj g2⟩))
  · have e : j = j / 4 * 4 + 3 := by omega
    rw [← e, h] at g3
    exact Or.inr (Or.inr (Or.inr ⟨e, Option.some.inj g3⟩))

/-- Texts and numbers that there are. -/
structure WfE (x : En) : Prop where
  path : x.path.length ≤ 140737488355328
  data : x.data.length ≤ 140737488355328
  kind : -9223372036854775808 ≤ x.kind ∧ x.kind ≤ 9223372036854775807
  mode : -9223372036854775808 ≤ x.mode ∧ x.mode ≤ 9223372036854775807
/-- A slice of entries, below block B. -/
def RdE (w : World) (B : Nat) (A : Option Addr) (l : List En) : Prop :=
  l ≠ [] → ∃ blk off, A = some ⟨blk, off, none⟩ ∧ blk < B ∧ ∀ i x, l[i]? = some x → w.cell? ⟨blk, off + i * 4, none⟩ = some (.string (tx x.path)) ∧ w.cell? ⟨blk, off + i * 4 + 1, none⟩ = some (.int .i64 x.kind) ∧ w.cell? ⟨blk, off + i * 4 + 2, none⟩ = some (.int .i64 x.mode) ∧ w.cell? ⟨blk, off + i * 4 + 3, none⟩ = some (.string (tx x.data))
theorem RdE.still {w w' : World} {B : Nat} {A : Option Addr} {l : List En} (h : RdE w B A l) (hF : Fr (fun _ => False) w w') (hB : B ≤ w.heap.size) : RdE w' B A l := fun hne => by
  obtain ⟨blk, off, e, hb, hc⟩ := h hne
  have k : ∀ o v, w.cell? ⟨blk, o, none⟩ = some v → w'.cell? ⟨blk, o, none⟩ = some v := fun o v hv => (World.cell?_of_block (w := w) (w' := w') (a := ⟨blk, o, none⟩) (hF.block blk (by omega) id)).trans hv
  exact ⟨blk, off, e, hb, fun i x hi => ⟨k _ _ (hc i x hi).1, k _ _ (hc i x hi).2.1, k _ _ (hc i x hi).2.2.1, k _ _ (hc i x hi).2.2.2⟩⟩
theorem RdE.more {w : World} {B B' : Nat} {A : Option Addr} {l : List En} (h : RdE w B A l) (hB : B ≤ B') : RdE w B' A l := fun hne => by
  obtain ⟨blk, off, e, hb, hc⟩ := h hne
  exact ⟨blk, off, e, by omega, hc⟩
theorem RdE.nil (w : World) (B : Nat) (A : Option Addr) : RdE w B A [] := fun h => absurd rfl h
theorem RdE.at_ {w : World} {B : Nat} {A : Option Addr} {l : List En} (h : RdE w B A l) {k : Nat} {x : En} (hk : l[k]? = some x) :
    ∃ b o, A = some ⟨b, o, none⟩ ∧ b < B ∧ w.cell? ⟨b, o + k * 4, none⟩ = some (.string (tx x.path)) ∧ w.cell? ⟨b, o + k * 4 + 1, none⟩ = some (.int .i64 x.kind) ∧ w.cell? ⟨b, o + k * 4 + 2, none⟩ = some (.int .i64 x.mode) ∧ w.cell? ⟨b, o + k * 4 + 3, none⟩ = some (.string (tx x.data)) := by
  obtain ⟨b, o, e, hb, hc⟩ := h (by rintro rfl; simp at hk)
  exact ⟨b, o, e, hb, hc k x hk⟩
theorem srcE {w : World} {B : Nat} {ad : Addr} {l : List En} (h : RdE w B (some ad) l) : ∀ j u, (ecs l)[j]? = some u → w.cell? (ad.add j) = some u := by
  intro j u hu
  obtain ⟨i, x, hx, hc⟩ := ecs_at hu
  obtain ⟨blk, off, e, _, hcell⟩ := h (by rintro rfl; simp at hx)
  cases e
  rw [add_plain]
  rcases hc with ⟨rfl, rfl⟩ | ⟨rfl, rfl⟩ | ⟨rfl, rfl⟩ | ⟨rfl, rfl⟩
  · exact (hcell i x hx).1
  · rw [← Nat.add_assoc]
    exact (hcell i x hx).2.1
  · rw [← Nat.add_assoc]
    exact (hcell i x hx).2.2.1
  · rw [← Nat.add_assoc]
    exact (hcell i x hx).2.2.2

/-- A slice of the call's own that holds these entries. -/
def OwnE (w : World) (base : Nat) (v : Value) (l : List En) : Prop := w.ownsRow base 30 4 v l.length (ecs l)
theorem OwnE.kept {w w' : World} {base : Nat} {v : Value} {l : List En} (h : OwnE w base v l) (hF : Fr (fun _ => False) w w') : OwnE w' base v l := by
  obtain ⟨h1, h2⟩ := h
  refine ⟨h1, ?_⟩
  rcases h2 with h2 | ⟨g, cap, cur, hv, hg, hh, r⟩
  · exact Or.inl h2
  · exact Or.inr ⟨g, cap, cur, hv, hg, (hF.block g (Array.getElem?_eq_some_iff.1 hh).1 id).trans hh, r⟩
theorem OwnE.rd {w : World} {base cap : Nat} {A : Option Addr} {l : List En} (h : OwnE w base (.slice A l.length cap) l) : RdE w w.heap.size A l := fun hne => by
  obtain ⟨_, h2⟩ := h
  rcases h2 with ⟨_, h0⟩ | ⟨g, cap', cur, hv, hg, hh, _, _, _, ht⟩
  · exact absurd (List.eq_nil_of_length_eq_zero h0) hne
  · cases hv
    have key : ∀ j u, (ecs l)[j]? = some u → w.cell? ⟨g, 0 + j, none⟩ = some u := fun j u hj => by
      rw [cellAt hh, Nat.zero_add, ← Array.getElem?_toList]
      have h1 : (cur.toList.take (l.length * 4))[j]? = some u := by rw [ht, hj]
      rw [List.getElem?_take] at h1
      split at h1
      · exact h1
      · cases h1
    exact ⟨g, 0, rfl, (Array.getElem?_eq_some_iff.1 hh).1, fun i x hi => ⟨key _ _ (ecs_get l i x hi).1, by rw [Nat.add_assoc]; exact key _ _ (ecs_get l i x hi).2.1, by rw [Nat.add_assoc]; exact key _ _ (ecs_get l i x hi).2.2.1, by rw [Nat.add_assoc]; exact key _ _ (ecs_get l i x hi).2.2.2⟩⟩
theorem OwnE.shape {w : World} {base n : Nat} {v : Value} {l : List En} {xs : List Value} (hn : n = l.length) (hx : xs = ecs l) (h : w.ownsRow base 30 4 v n xs) : ∃ A cap, v = .slice A l.length cap ∧ OwnE w base (.slice A l.length cap) l := by
  subst hn
  subst hx
  obtain ⟨h1, h2⟩ := id h
  rcases h2 with ⟨rfl, h0⟩ | ⟨g, cap, cur, rfl, hg, hh, r⟩
  · refine ⟨none, 0, by rw [h0], ?_⟩
    rw [h0]
    exact h
  · exact ⟨_, cap, rfl, h⟩
theorem ownE_made (w : World) : OwnE (w.alloc (.cells #[] 30)) w.heap.size (.slice (some ⟨w.heap.size, 0, none⟩) 0 0) [] := World.ownsRow_made w #[] 0 (Nat.le_refl _) (Nat.zero_le _) (by simp)
theorem own_max {w : World} {base n cap size : Nat} {t : TypeId} {A : Option Addr} {xs : List Value} (h : w.ownsRow base t size (.slice A n cap) n xs) : cap ≤ maxLen := by
  rcases h.2 with ⟨e, h0⟩ | ⟨g, cap', cur, e, hg, hh, hn, hm, _⟩
  · cases e
    exact Nat.zero_le _
  · cases e
    exact hm
/-- A header as a record, and where it lies as a variable of its own. -/
abbrev rec5 (a b c d e : Value) : Obj := .cells #[a, b, c, d, e] 57
/-- A new slice of entries, beside a number. -/
def NewE (w : World) (r : List En × Int) (e : Ending) (w' : World) : Prop := ∃ A cap, e = .returned (.tuple #[.slice A r.1.length cap, .int .i64 r.2]) ∧ OwnE w' w.heap.size (.slice A r.1.length cap) r.1 ∧ Fr (fun _ => False) w w'
end Go.Proofs.YtgimiggffpokpaaGreatDoor.ta
