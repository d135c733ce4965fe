/-
  Rows of texts; a text parted, texts that are the same (the base's helpers).
-/
import Derived.Test.YtgimiggffpokpaaGreatDoorPtM
import Derived.Lib.Strings
import Derived.Deep.Slices
import Derived.Maps.AppendAt
namespace Go.Proofs.YtgimiggffpokpaaGreatDoor.pt
set_option maxRecDepth 100000
open Go.RowKit Go.Maps
set_option maxRecDepth 100000

abbrev tx (l : Tx) : ByteArray := ⟨l.toArray⟩
theorem toL (s : ByteArray) : s.toList = s.data.toList := ByteArray.toList_eq s
theorem tx_toL (l : Tx) : (tx l).toList = l := by rw [toL]
theorem tx_of (s : ByteArray) : tx s.toList = s := by rw [toL]
theorem tx_size (l : Tx) : (tx l).size = l.length := by show l.toArray.size = _; simp
theorem toL_len (s : ByteArray) : s.toList.length = s.size := by rw [toL]; rfl
theorem toL_get (s : ByteArray) (k : Nat) (h : k < s.size) : s.toList[k]? = some s[k] := by
  have hl : k < s.toList.length := by rw [toL_len]; exact h
  rw [List.getElem?_eq_getElem hl]
  congr 1
  have e := toL s
  simp only [e]
  rfl
theorem tx_ext (s : ByteArray) (a b : Nat) : s.extract a b = tx ((s.toList.drop a).take (b - a)) := by rw [Go.Lib.extract_eq, toL]
theorem tx_inj {a b : Tx} (h : tx a = tx b) : a = b := by rw [← tx_toL a, h, tx_toL]
abbrev zeroS : Value := .string ⟨#[]⟩
theorem infoS : (Tryz.prog.info? 9).map (fun i => (i.zero, i.size, i.bytes)) = some (some zeroS, 1, 16) := by kernel_rfl
/-- Texts as cells. -/
def ss (l : List Tx) : List Value := l.map fun x => .string (tx x)
theorem ss_length (l : List Tx) : (ss l).length = l.length := by unfold ss; rw [List.length_map]
theorem ss_append (a b : List Tx) : ss (a ++ b) = ss a ++ ss b := by unfold ss; rw [List.map_append]
theorem ss_get (l : List Tx) (j : Nat) : (ss l)[j]? = l[j]?.map fun x => .string (tx x) := by unfold ss; rw [List.getElem?_map]
theorem ss_one (l : List Tx) : ∀ u ∈ ss l, u.oneCell' = true := by
  unfold ss
  intro u hu
  obtain ⟨b, _, rfl⟩ := List.mem_map.1 hu
  rfl
/-- A slice of texts that is read; it lies below block B. -/
def RdS (w : World) (B : Nat) (A : Option Addr) (l : List Tx) : Prop :=
  l ≠ [] → ∃ blk off, A = some ⟨blk, off, none⟩ ∧ blk < B ∧ ∀ j x, l[j]? = some x → w.cell? ⟨blk, off + j, none⟩ = some (.string (tx x))
theorem RdS.nil (w : World) (B : Nat) (A : Option Addr) : RdS w B A [] := fun h => absurd rfl h
theorem RdS.still {w w' : World} {B : Nat} {A : Option Addr} {l : List Tx} (h : RdS w B A l) (hF : Fr (fun _ => False) w w') (hB : B ≤ w.heap.size) : RdS w' B A l := fun hne => by
  obtain ⟨blk, off, hp, hb, hc⟩ := h hne
  exact ⟨blk, off, hp, hb, fun j x hj => (World.cell?_of_block (w := w) (w' := w') (hF.block blk (by omega) id)).trans (hc j x hj)⟩
theorem RdS.calm {w w' : World} {B : Nat} {A : Option Addr} {l : List Tx} (h : RdS w B A l) (hC : Calm w w') : RdS w' B A l := fun hne => by
  obtain ⟨blk, off, hp, hb, hc⟩ := h hne
  exact ⟨blk, off, hp, hb, fun j x hj => (hC.cell _).trans (hc j x hj)⟩
theorem RdS.more {w : World} {B B' : Nat} {A : Option Addr} {l : List Tx} (h : RdS w B A l) (hB : B ≤ B') : RdS w B' A l := fun hne => by
  obtain ⟨blk, off, hp, hb, hc⟩ := h hne
  exact ⟨blk, off, hp, by omega, hc⟩
theorem RdS.at_ {w : World} {B : Nat} {A : Option Addr} {l : List Tx} (h : RdS w B A l) {k : Nat} {x : Tx} (hk : l[k]? = some x) :
    ∃ blk off, A = some ⟨blk, off, none⟩ ∧ blk < B ∧ w.cell? ⟨blk, off + k, none⟩ = some (.string (tx x)) := by
  obtain ⟨blk, off, hp, hb, hc⟩ := h (by rintro rfl; simp at hk)
  exact ⟨blk, off, hp, hb, hc k _ hk⟩
/-- A slice of the call's own that holds these texts. -/
def OwnS (w : World) (base : Nat) (v : Value) (l : List Tx) : Prop := w.ownsRow base 9 1 v l.length (ss l)
theorem OwnS.still {w w' : World} {base : Nat} {v : Value} {l : List Tx} (h : OwnS w base v l) (hF : Fr (fun _ => False) w w') : OwnS w' base v l := by
  obtain ⟨h1, h2⟩ := h
  refine ⟨h1, ?_⟩
  rcases h2 with h2 | ⟨g, cap, cur, hv, hg, hh, r⟩
  · exact Or.inl h2
  · exact Or.inr ⟨g, cap, cur, hv, hg, (hF.block g (Array.getElem?_eq_some_iff.1 hh).1 id).trans hh, r⟩
theorem OwnS.rd {w : World} {base cap : Nat} {A : Option Addr} {l : List Tx} (h : OwnS w base (.slice A l.length cap) l) : RdS w w.heap.size A l := fun hne => by
  obtain ⟨_, h2⟩ := h
  rcases h2 with ⟨_, h0⟩ | ⟨g, cap', cur, hv, hg, hh, _, _, _, ht⟩
  · exact absurd (List.eq_nil_of_length_eq_zero h0) hne
  · cases hv
    refine ⟨g, 0, rfl, (Array.getElem?_eq_some_iff.1 hh).1, fun j x hj => ?_⟩
    rw [cellAt hh, Nat.zero_add, ← Array.getElem?_toList]
    have h1 : (cur.toList.take (l.length * 1))[j]? = some (.string (tx x)) := by rw [ht, ss_get, hj]; rfl
    rw [List.getElem?_take] at h1
    split at h1
    · exact h1
    · cases h1
theorem OwnS.shape {w : World} {base n : Nat} {v : Value} {l : List Tx} {xs : List Value} (hn : n = l.length) (hx : xs = ss l) (h : w.ownsRow base 9 1 v n xs) : ∃ A cap, v = .slice A l.length cap ∧ OwnS w base (.slice A l.length cap) l := by
  subst hn
  subst hx
  obtain ⟨h1, h2⟩ := id h
  rcases h2 with ⟨rfl, h0⟩ | ⟨g, cap, cur, rfl, hg, hh, r⟩
  · refine ⟨none, 0, by rw [h0], ?_⟩
    rw [h0]
    exact h
  · exact ⟨_, cap, rfl, h⟩
theorem own_geS {w0 w : World} {n : Nat} {v : Value} {xs : List Value} {q : Nat} (h : w.ownsRow w0.heap.size 9 1 v n xs) (e : v.ownBlock = some q) : False ∨ w0.heap.size ≤ q := by
  rcases h.2 with ⟨rfl, _⟩ | ⟨g, cap, cur, rfl, hg, _⟩
  · cases e
  · cases e
    exact Or.inr hg
/-- A new slice of these texts. -/
def NewS (w : World) (l : List Tx) (e : Ending) (w' : World) : Prop := ∃ A cap, e = .returned (.slice A l.length cap) ∧ OwnS w' w.heap.size (.slice A l.length cap) l ∧ Fr (fun _ => False) w w'
theorem ownS_nil (w : World) : (w.alloc (.cells #[] 9)).ownsRow w.heap.size 9 1 (.slice (some ⟨w.heap.size, 0, none⟩) 0 0) 0 [] := World.ownsRow_made w #[] 0 (Nat.le_refl _) (Nat.zero_le _) (by simp)
/-- What an append of one text leaves. -/
theorem snocS {w0 w w' : World} {p : Option Addr} {m c : Nat} {L : List Tx} {x : Tx} {v : Value} (hm : m = L.length) (ho : w.ownsRow w0.heap.size 9 1 (.slice p m c) m (ss L)) (hF : Fr (fun _ => False) w0 w)
    (hown : w'.ownsRow w0.heap.size 9 1 v (m + 1) (ss L ++ [.string (tx x)])) (hg : w.grownBy w' (Value.slice p m c).ownBlock) : ∃ p' c', v = .slice p' (m + 1) c' ∧ m + 1 = (L ++ [x]).length ∧ w'.ownsRow w0.heap.size 9 1 (.slice p' (m + 1) c') (m + 1) (ss (L ++ [x])) ∧ Fr (fun _ => False) w0 w' := by
  have hl : m + 1 = (L ++ [x]).length := by rw [List.length_append, ← hm]; rfl
  obtain ⟨p', c', e, h⟩ := OwnS.shape (l := L ++ [x]) hl (by rw [ss_append]; rfl) hown
  rw [← hl] at e h
  unfold OwnS at h
  rw [← hl] at h
  exact ⟨p', c', e, hl, h, hF.grown hg (fun q e => own_geS ho e)⟩
theorem newsS (w : World) {g : Nat} {x : ByteArray} (h : w.heap[g]? = some (.cells #[.string x] 9 (0, 0))) : ∀ j u, [Value.string x][j]? = some u → w.cell? ((⟨g, 0, none⟩ : Addr).add j) = some u := fun j u hu => by
  rw [add_plain, cellAt h, Nat.zero_add, ← Array.getElem?_toList]
  exact hu
theorem oneS (x : ByteArray) : ∀ u ∈ [Value.string x], u.oneCell' = true := by
  intro u hu
  obtain rfl := List.mem_singleton.1 hu
  rfl

end Go.Proofs.YtgimiggffpokpaaGreatDoor.pt
