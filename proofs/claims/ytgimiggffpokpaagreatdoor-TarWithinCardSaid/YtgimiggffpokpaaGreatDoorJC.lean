/-
  Texts that belong together, joined: PtC PtD PtE PtF PtG PtQ.
-/
import Derived.Test.YtgimiggffpokpaaGreatDoorPtB
import Derived.Deep.DeepCutAuto
import Derived.Deep.CutBlock

/-
  The document's Check, Clean.
-/

namespace Go.Proofs.YtgimiggffpokpaaGreatDoor.pt
set_option maxRecDepth 100000
open Go.RowKit Go.Maps
set_option maxRecDepth 100000

theorem checkZ_ok {l : Tx} (h : okT l = true) : checkZ l = 0 := if_pos h
theorem checkZ_no {l : Tx} (h : okT l = false) : checkZ l = 140 := if_neg (by rw [h]; simp)
theorem isE {s : ByteArray} (h : s.toList ≠ []) : s.toList.isEmpty = false := by rw [Bool.eq_false_iff]; intro e; exact h (List.isEmpty_iff.1 e)
theorem empty_tx {s : ByteArray} (h : s.toList = []) : s = ⟨#[]⟩ := by rw [← tx_of s, h]
end Go.Proofs.YtgimiggffpokpaaGreatDoor.pt

/-
  The document's Clean.
-/
namespace Go.Proofs.YtgimiggffpokpaaGreatDoor.pt
set_option maxRecDepth 100000
open Go.RowKit Go.Maps
set_option maxRecDepth 100000

theorem dot_yes {l : Tx} (h : beginsB l [46, 47] = true) : dotL l = l.drop 2 ∧ 2 ≤ l.length := by
  unfold beginsB at h
  simp only [Bool.and_eq_true, decide_eq_true_eq] at h
  have h2 := h.1
  simp at h2
  refine ⟨?_, h2⟩
  unfold dotL
  rw [if_pos]
  rw [List.isPrefixOf_iff_prefix]
  exact ⟨l.drop 2, by conv => rhs; rw [← List.take_append_drop 2 l]
                      exact congrArg (· ++ l.drop 2) h.2.symm⟩
theorem dot_no {l : Tx} (h : beginsB l [46, 47] = false) : dotL l = l := by
  unfold dotL
  by_cases e : [46, 47].isPrefixOf l = true
  · exfalso
    obtain ⟨t, rfl⟩ := List.isPrefixOf_iff_prefix.1 e
    revert h
    unfold beginsB
    simp
  · rw [if_neg e]
theorem end_yes {l : Tx} (h : endsB l [47] = true) : endL l = l.take (l.length - 1) ∧ 1 ≤ l.length := by
  unfold endsB at h
  simp only [Bool.and_eq_true, decide_eq_true_eq] at h
  have h2 := h.1
  simp at h2
  refine ⟨?_, by omega⟩
  have e : l = l.take (l.length - 1) ++ [47] := by
    conv => lhs; rw [← List.take_append_drop (l.length - 1) l]
    exact congrArg (l.take (l.length - 1) ++ ·) h.2
  unfold endL
  rw [if_pos (by rw [e]; simp), List.dropLast_eq_take]
theorem end_no {l : Tx} (h : endsB l [47] = false) : endL l = l := by
  unfold endL
  by_cases e : l.getLast? = some 47
  · exfalso
    obtain ⟨ys, rfl⟩ := List.getLast?_eq_some_iff.1 e
    revert h
    unfold endsB
    simp
  · rw [if_neg e]
theorem clean_dot {l : Tx} (h : l = [46] ∨ l = [46, 47]) : cleanL l = ([], 0) := if_pos h
theorem clean_end {l a : Tx} (h : ¬ (l = [46] ∨ l = [46, 47])) (ha : endL (dotL l) = a) : cleanL l = if a = [] ∨ okT a = false then ([], 140) else (a, 0) := by unfold cleanL; rw [if_neg h, ha]
/-- What Clean answers. -/
def AnsC (w : World) (r : Tx × Int) (e : Ending) (w' : World) : Prop := e = .returned (.tuple #[.string (tx r.1), .int .i64 r.2]) ∧ Fr (fun _ => False) w w'
end Go.Proofs.YtgimiggffpokpaaGreatDoor.pt

/-
  The document's Parent, Base, Join, Under.
-/
namespace Go.Proofs.YtgimiggffpokpaaGreatDoor.pt
set_option maxRecDepth 100000
open Go.RowKit Go.Maps
set_option maxRecDepth 100000

/-- Where the last / stands. -/
def CutZ (l : Tx) (z : Int) : Prop := (z = -1 ∧ (47 : UInt8) ∉ l) ∨ ∃ i : Nat, z = i ∧ l[i]? = some 47 ∧ (47 : UInt8) ∉ l.drop (i + 1)
theorem cut_parts {l : Tx} {i : Nat} (h : l[i]? = some 47) (hn : (47 : UInt8) ∉ l.drop (i + 1)) : parentL l = l.take i ∧ baseL l = l.drop (i + 1) := by
  have hi := (List.getElem?_eq_some_iff.1 h).1
  have e : l = l.take i ++ 47 :: l.drop (i + 1) := by
    conv => lhs; rw [← List.take_append_drop i l, List.drop_eq_getElem_cons hi, (List.getElem?_eq_some_iff.1 h).2]
  have := parent_at (l.take i) hn
  rwa [← e] at this
theorem tx_app (a b : ByteArray) : a ++ b = tx (a.toList ++ b.toList) := by
  rw [toL, toL]
  apply ByteArray.ext
  simp
theorem app_47 (t : ByteArray) : (t ++ (⟨#[47]⟩ : ByteArray)).toList = t.toList ++ [47] := by
  rw [tx_app]
  refine (tx_toL _).trans ?_
  rw [show (⟨#[47]⟩ : ByteArray).toList = [47] from tx_toL [47]]
theorem CutZ.parent {l : Tx} {z : Int} (h : CutZ l z) : (z = -1 ∧ parentL l = [] ∧ baseL l = l) ∨ ∃ i : Nat, z = i ∧ i < l.length ∧ parentL l = l.take i ∧ baseL l = l.drop (i + 1) := by
  rcases h with ⟨h1, h2⟩ | ⟨i, h1, h2, h3⟩
  · exact Or.inl ⟨h1, parent_none h2⟩
  · exact Or.inr ⟨i, h1, (List.getElem?_eq_some_iff.1 h2).1, cut_parts h2 h3⟩
end Go.Proofs.YtgimiggffpokpaaGreatDoor.pt

/-
  The document's All.
-/
namespace Go.Proofs.YtgimiggffpokpaaGreatDoor.pt
set_option maxRecDepth 100000
open Go.RowKit Go.Maps
set_option maxRecDepth 100000

theorem up_succ (l : Tx) (m : Nat) : (List.range (m + 1)).map (upTo l) = (List.range m).map (upTo l) ++ [upTo l m] := by rw [List.range_succ, List.map_append]; rfl
end Go.Proofs.YtgimiggffpokpaaGreatDoor.pt

/-
  The document's Target.
-/


namespace Go.Proofs.YtgimiggffpokpaaGreatDoor.pt
set_option maxRecDepth 100000
open Go.RowKit Go.Maps
set_option maxRecDepth 100000

theorem join_drop_len : ∀ ps : List Tx, (joinB 47 ps.dropLast).length ≤ (joinB 47 ps).length
  | [] => Nat.le_refl _
  | [a] => Nat.zero_le _
  | [a, b] => by simp [joinB]
  | a :: b :: c :: r => by
    have ih := join_drop_len (b :: c :: r)
    have e : (a :: b :: c :: r).dropLast = a :: (b :: c :: r).dropLast := rfl
    rw [e, join_cons (by simp), join_cons (a := a) (r := b :: c :: r) (by simp), List.length_append, List.length_append, List.length_cons, List.length_cons]
    omega
theorem join_push_len {ps : List Tx} {n : Tx} : (joinB 47 (ps ++ [n])).length ≤ (joinB 47 ps).length + 1 + n.length := by
  by_cases e : ps = []
  · subst e; simp [joinB]
  · rw [join_snoc e, List.length_append, List.length_cons]; omega
theorem target_fail {a b : Tx} {k : Nat} (h : okT a = true) (hne : a ≠ []) (hb : b ≠ []) (hk : k ≤ (splitB 47 b).length) (hg : goT a b k = none) : targetL a b = ([], 140) := by
  unfold targetL
  rw [if_neg (by rintro (e | e | e); rw [h] at e; cases e; exact hne e; exact hb e), goT_more hg hk]
theorem target_end {a b : Tx} {ps : List Tx} (h : okT a = true) (hne : a ≠ []) (hb : b ≠ []) (hg : goT a b (splitB 47 b).length = some ps) : targetL a b = if (joinB 47 ps).length ≤ 200 then (joinB 47 ps, 0) else ([], 140) := by
  unfold targetL
  rw [if_neg (by rintro (e | e | e); rw [h] at e; cases e; exact hne e; exact hb e), hg]
theorem start_parent {a b : Tx} (h : b.head? ≠ some 47) : joinB 47 (startT a b) = parentL a := by unfold startT; rw [if_neg h]; rfl
theorem start_root {a b : Tx} (h : b.head? = some 47) : startT a b = [] := if_pos h
theorem start_len {a b : Tx} : (joinB 47 (startT a b)).length ≤ a.length := by
  unfold startT
  by_cases h : b.head? = some 47
  · rw [if_pos h]; exact Nat.zero_le _
  · rw [if_neg h]
    have := join_drop_len (splitB 47 a)
    rwa [join_split] at this
/-- Where the way stands. -/
structure TgI (a b : Tx) (k : Nat) (T : ByteArray) (ps : List Tx) : Prop where
  go : goT a b k = some ps
  names : Names ps
  eq : T = tx (joinB 47 ps)
  len : (joinB 47 ps).length ≤ 200 + 33 * k
theorem TgI.empty {a b : Tx} {k : Nat} {T : ByteArray} {ps : List Tx} (h : TgI a b k T ps) : T.toList = [] ↔ ps = [] := by rw [h.eq, tx_toL]; exact join_nil h.names
theorem TgI.stay {a b : Tx} {k : Nat} {T : ByteArray} {ps : List Tx} (h : TgI a b k T ps) {x : Tx} (hx : (splitB 47 b)[k]? = some x) (he : x = [] ∨ x = [46]) : TgI a b (k + 1) T ps :=
  ⟨by rw [goT_succ hx, h.go]; unfold stepT; simp only [Option.bind_some]; rw [if_pos he], h.names, h.eq, by have := h.len; omega⟩
theorem TgI.up {a b : Tx} {k : Nat} {T : ByteArray} {ps : List Tx} (h : TgI a b k T ps) (hx : (splitB 47 b)[k]? = some [46, 46]) (hne : ps ≠ []) : TgI a b (k + 1) (tx (parentL T.toList)) ps.dropLast :=
  ⟨by rw [goT_succ hx, h.go]; show (if ([46, 46] : Tx) = [] ∨ ([46, 46] : Tx) = [46] then some ps else if ([46, 46] : Tx) = [46, 46] then (if ps = [] then none else some ps.dropLast) else if nmT [46, 46] = true then some (ps ++ [[46, 46]]) else none) = _; rw [if_neg (by simp), if_pos rfl, if_neg hne], h.names.dropLast, by rw [h.eq, tx_toL, parent_join hne h.names.free], by have := h.len; have := join_drop_len ps; omega⟩
theorem TgI.root {a b : Tx} {k : Nat} {T : ByteArray} (h : TgI a b k T []) (hx : (splitB 47 b)[k]? = some [46, 46]) : goT a b (k + 1) = none := by
  rw [goT_succ hx, h.go]
  rfl
theorem TgI.bad {a b : Tx} {k : Nat} {T : ByteArray} {ps : List Tx} (h : TgI a b k T ps) {x : Tx} (hx : (splitB 47 b)[k]? = some x) (h0 : x ≠ []) (h1 : x ≠ [46]) (h2 : x ≠ [46, 46]) (hn : nmT x = false) : goT a b (k + 1) = none := by
  rw [goT_succ hx, h.go]; unfold stepT; simp only [Option.bind_some]
  rw [if_neg (by rintro (e | e); exact h0 e; exact h1 e), if_neg h2, if_neg (by rw [hn]; simp)]
theorem TgI.push {a b : Tx} {k : Nat} {T : ByteArray} {ps : List Tx} (h : TgI a b k T ps) {x : Tx} (hx : (splitB 47 b)[k]? = some x) (h0 : x ≠ []) (h1 : x ≠ [46]) (h2 : x ≠ [46, 46]) (hn : nmT x = true) : TgI a b (k + 1) (tx (joinT T.toList x)) (ps ++ [x]) :=
  ⟨by rw [goT_succ hx, h.go]; unfold stepT; simp only [Option.bind_some]; rw [if_neg (by rintro (e | e); exact h0 e; exact h1 e), if_neg h2, if_pos hn], h.names.snoc hn, by rw [h.eq, tx_toL, joinT_join h.names h0], by have := h.len; have := join_push_len (ps := ps) (n := x); have := (nmT_parts hn).2.2.1; omega⟩
theorem ansC_no (w w' : World) (h : Fr (fun _ => False) w w') : AnsC w ([], 140) (.returned (.tuple #[.string ⟨#[]⟩, .int .i64 140])) w' := ⟨rfl, h⟩

end Go.Proofs.YtgimiggffpokpaaGreatDoor.pt

/-
  What is asked of the program's paths; the law's works over it.
-/
namespace Go.Proofs.YtgimiggffpokpaaGreatDoor.pt
set_option maxRecDepth 100000
open Go.RowKit Go.Maps
set_option maxRecDepth 100000

/-- The program's paths, as the chapter has them; cl: what Clean answers (of a text that is not empty what the document does; of the empty one, the empty text and one of two numbers). -/
structure PathP (cl : Tx → Tx × Int) : Prop where
  cl_eq : ∀ l, l ≠ [] → cl l = cleanL l
  cl_nil : cl [] = ([], 0) ∨ cl [] = ([], 140)
  check : ∀ (w : World) (s : ByteArray), s.size ≤ maxLen → Calls Tryz.prog 6 #[.string s] w fun e w' => e = .returned (.int .i64 (checkZ s.toList)) ∧ Fr (fun _ => False) w w'
  clean : ∀ (w : World) (s : ByteArray), s.size ≤ maxLen → Calls Tryz.prog 50 #[.string s] w (AnsC w (cl s.toList))
  target : ∀ (w : World) (s t : ByteArray), s.size ≤ maxLen → t.size ≤ 1099511627776 → Calls Tryz.prog 53 #[.string s, .string t] w (AnsC w (targetL s.toList t.toList))
  under : ∀ (w : World) (s t : ByteArray), s.size ≤ 140737488355328 → t.size ≤ 140737488355328 → Calls Tryz.prog 8 #[.string s, .string t] w fun e w' => e = .returned (.bool (underT s.toList t.toList)) ∧ Fr (fun _ => False) w w'

theorem PathP.no {cl : Tx → Tx × Int} (HP : PathP cl) {l a : Tx} {z : Int} (h : cl l = (a, z)) (hz : z ≠ 0) : a = [] ∧ z = 140 := by
  by_cases hl : l = []
  · subst hl
    rcases HP.cl_nil with e | e
    · rw [e] at h; cases h; exact absurd rfl hz
    · rw [e] at h; cases h; exact ⟨rfl, rfl⟩
  · rw [HP.cl_eq l hl] at h
    exact clean_no h hz
theorem PathP.ok {cl : Tx → Tx × Int} (HP : PathP cl) {l a : Tx} (h : cl l = (a, 0)) : okT a = true ∧ (a = [] ∨ cl a = (a, 0)) := by
  by_cases hl : l = []
  · subst hl
    rcases HP.cl_nil with e | e
    · rw [e] at h; cases h; exact ⟨okT_nil, Or.inl rfl⟩
    · rw [e] at h; cases h
  · rw [HP.cl_eq l hl] at h
    obtain ⟨h1, h2⟩ := clean_ok h
    refine ⟨h1, ?_⟩
    by_cases ha : a = []
    · exact Or.inl ha
    · rw [HP.cl_eq a ha]; exact h2
/-- An answer of a text and a number. -/
def Ans2 (w : World) (a : Tx) (z : Int) (e : Ending) (w' : World) : Prop := (∃ X : ByteArray, e = .returned (.tuple #[.string X, .int .i64 z]) ∧ X.toList = a) ∧ Fr (fun _ => False) w w'
theorem AnsC.two {w w' : World} {r : Tx × Int} {a : Tx} {z : Int} {e : Ending} (h : AnsC w r e w') (hr : r = (a, z)) : Ans2 w a z e w' := by
  subst hr
  exact ⟨⟨tx a, h.1, tx_toL a⟩, h.2⟩
theorem clean_at {cl : Tx → Tx × Int} (HP : PathP cl) (w : World) (l : Tx) (a : Tx) (z : Int) (h : cleanL l = (a, z)) (hl : l.length ≤ 1000) (hne : l ≠ []) : Calls Tryz.prog 50 #[.string (tx l)] w (Ans2 w a z) :=
  (HP.clean w (tx l) (by rw [tx_size]; unfold maxLen; omega)).mono fun _ _ k => k.two (by rw [tx_toL, HP.cl_eq l hne, h])
theorem target_at {cl : Tx → Tx × Int} (HP : PathP cl) (w : World) (l m : Tx) (a : Tx) (z : Int) (h : targetL l m = (a, z)) (hl : l.length ≤ 1000) (hm : m.length ≤ 1000) : Calls Tryz.prog 53 #[.string (tx l), .string (tx m)] w (Ans2 w a z) :=
  (HP.target w (tx l) (tx m) (by rw [tx_size]; unfold maxLen; omega) (by rw [tx_size m]; omega)).mono fun _ _ k => k.two (by rw [tx_toL, tx_toL m, h])
theorem under_at {cl : Tx → Tx × Int} (HP : PathP cl) (w : World) (l m : Tx) (r : Bool) (h : underT l m = r) (hl : l.length ≤ 1000) (hm : m.length ≤ 1000) : Calls Tryz.prog 8 #[.string (tx l), .string (tx m)] w fun e w' => e = .returned (.bool r) ∧ Fr (fun _ => False) w w' := by
  have := HP.under w (tx l) (tx m) (by rw [tx_size]; omega) (by rw [tx_size m]; omega)
  rwa [tx_toL, tx_toL m, h] at this
end Go.Proofs.YtgimiggffpokpaaGreatDoor.pt
