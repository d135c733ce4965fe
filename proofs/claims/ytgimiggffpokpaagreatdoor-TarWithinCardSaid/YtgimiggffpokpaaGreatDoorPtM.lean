/-
  Texts parted at a byte; paths (mathematics).
-/
import Derived.Test.YtgimiggffpokpaaGreatDoorJA
namespace Go.Proofs.YtgimiggffpokpaaGreatDoor.pt
set_option maxRecDepth 100000

abbrev Tx := List UInt8
/-- A text parted at a byte. -/
def splitB (c : UInt8) : Tx → List Tx
  | [] => [[]]
  | x :: r => if x = c then [] :: splitB c r else match splitB c r with
    | [] => [[x]]
    | h :: t => (x :: h) :: t
/-- Parts with a byte between. -/
def joinB (c : UInt8) : List Tx → Tx
  | [] => []
  | [a] => a
  | a :: b :: r => a ++ c :: joinB c (b :: r)
theorem split_ne (c : UInt8) : ∀ l, splitB c l ≠ []
  | [] => by simp [splitB]
  | x :: r => by
    unfold splitB
    split
    · simp
    · split <;> simp
theorem split_at (c : UInt8) (b : Tx) : ∀ a : Tx, splitB c (a ++ c :: b) = splitB c a ++ splitB c b
  | [] => by simp [splitB]
  | x :: r => by
    have e1 : ∀ u : Tx, splitB c (x :: u) = if x = c then [] :: splitB c u else match splitB c u with
      | [] => [[x]]
      | h :: t => (x :: h) :: t := fun _ => rfl
    rw [List.cons_append, e1, e1, split_at c b r]
    by_cases h : x = c
    · rw [if_pos h, if_pos h]; rfl
    · rw [if_neg h, if_neg h]
      cases hs : splitB c r with
      | nil => exact absurd hs (split_ne c r)
      | cons y t => rfl
theorem split_free {c : UInt8} : ∀ {a : Tx}, c ∉ a → splitB c a = [a]
  | [], _ => rfl
  | x :: r, h => by
    have h1 : ¬ x = c := fun e => h (by simp [e])
    have h2 : c ∉ r := fun e => h (by simp [e])
    unfold splitB
    rw [if_neg h1, split_free h2]
theorem join_cons {c : UInt8} {a : Tx} {r : List Tx} (h : r ≠ []) : joinB c (a :: r) = a ++ c :: joinB c r := by
  cases r with
  | nil => exact absurd rfl h
  | cons b r => rfl
theorem join_split (c : UInt8) : ∀ l, joinB c (splitB c l) = l
  | [] => rfl
  | x :: r => by
    have ih := join_split c r
    unfold splitB
    by_cases h : x = c
    · rw [if_pos h, join_cons (split_ne c r), ih, h]; rfl
    · rw [if_neg h]
      cases hs : splitB c r with
      | nil => exact absurd hs (split_ne c r)
      | cons y t =>
        rw [hs] at ih
        cases t with
        | nil => simp [joinB] at ih ⊢; exact ih
        | cons z t => simp [joinB] at ih ⊢; exact ih
theorem split_all {c : UInt8} : ∀ {l : Tx}, ∀ p ∈ splitB c l, c ∉ p
  | [], p, h => by simp [splitB] at h; subst h; simp
  | x :: r, p, h => by
    unfold splitB at h
    by_cases hx : x = c
    · rw [if_pos hx] at h
      rcases List.mem_cons.1 h with rfl | h
      · simp
      · exact split_all p h
    · rw [if_neg hx] at h
      cases hs : splitB c r with
      | nil => exact absurd hs (split_ne c r)
      | cons y t =>
        rw [hs] at h
        rcases List.mem_cons.1 h with rfl | h
        · intro hc
          rcases List.mem_cons.1 hc with e | hc
          · exact hx e.symm
          · exact split_all y (by rw [hs]; simp) hc
        · exact split_all p (by rw [hs]; simp [h])
theorem split_join {c : UInt8} : ∀ {ps : List Tx}, ps ≠ [] → (∀ p ∈ ps, c ∉ p) → splitB c (joinB c ps) = ps
  | [], h, _ => absurd rfl h
  | [a], _, h => split_free (h a (by simp))
  | a :: b :: r, _, h => by
    rw [join_cons (by simp), split_at, split_free (h a (by simp)), split_join (by simp) (fun p hp => h p (by simp [List.mem_cons.1 hp]))]
    rfl
theorem join_snoc {c : UInt8} : ∀ {ps : List Tx} {n : Tx}, ps ≠ [] → joinB c (ps ++ [n]) = joinB c ps ++ c :: n
  | [], _, h => absurd rfl h
  | [a], n, _ => rfl
  | a :: b :: r, n, _ => by
    rw [List.cons_append, join_cons (by simp), join_snoc (ps := b :: r) (by simp), join_cons (a := a) (r := b :: r) (by simp), List.append_assoc]
    rfl
theorem split_len {c : UInt8} : ∀ {l : Tx}, (∀ p ∈ splitB c l, p.length ≤ l.length) ∧ (splitB c l).length ≤ l.length + 1
  | [] => by simp [splitB]
  | x :: r => by
    have ih := split_len (c := c) (l := r)
    unfold splitB
    by_cases hx : x = c
    · rw [if_pos hx]
      refine ⟨fun p hp => ?_, by simp only [List.length_cons]; omega⟩
      rcases List.mem_cons.1 hp with rfl | hp
      · simp
      · have := ih.1 p hp; simp only [List.length_cons]; omega
    · rw [if_neg hx]
      cases hs : splitB c r with
      | nil => exact absurd hs (split_ne c r)
      | cons y t =>
        rw [hs] at ih
        have h2 := ih.2
        simp only [List.length_cons] at h2 ⊢
        refine ⟨fun p hp => ?_, by omega⟩
        rcases List.mem_cons.1 hp with rfl | hp
        · have := ih.1 y (by simp); simp only [List.length_cons]; omega
        · have := ih.1 p (by simp [hp]); omega
/-- How far a text is parted. -/
structure SpI (c : UInt8) (l : Tx) (out : List Tx) (a i : Nat) : Prop where
  eq : out ++ splitB c (l.drop a) = splitB c l
  le : a ≤ i
  in_ : i ≤ l.length
  free : c ∉ (l.drop a).take (i - a)
theorem SpI.zero (c : UInt8) (l : Tx) : SpI c l [] 0 0 := ⟨rfl, Nat.le_refl _, Nat.zero_le _, by simp⟩
theorem SpI.next {c : UInt8} {l : Tx} {out : List Tx} {a i : Nat} (h : SpI c l out a i) {x : UInt8} (hx : l[i]? = some x) (hn : x ≠ c) : SpI c l out a (i + 1) := by
  have hi := (List.getElem?_eq_some_iff.1 hx).1
  refine ⟨h.eq, Nat.le_succ_of_le h.le, hi, ?_⟩
  rw [show i + 1 - a = (i - a) + 1 by have := h.le; omega, List.take_add_one, List.getElem?_drop, show a + (i - a) = i by have := h.le; omega, hx]
  intro hc
  rcases List.mem_append.1 hc with hc | hc
  · exact h.free hc
  · simp at hc; exact hn hc.symm
theorem SpI.cut {c : UInt8} {l : Tx} {out : List Tx} {a i : Nat} (h : SpI c l out a i) (hx : l[i]? = some c) : SpI c l (out ++ [(l.drop a).take (i - a)]) (i + 1) (i + 1) := by
  have hi := (List.getElem?_eq_some_iff.1 hx).1
  refine ⟨?_, Nat.le_refl _, hi, by simp⟩
  have e : l.drop a = (l.drop a).take (i - a) ++ c :: l.drop (i + 1) := by
    conv => lhs; rw [← List.take_append_drop (i - a) (l.drop a)]
    rw [List.drop_drop, show a + (i - a) = i by have := h.le; omega, List.drop_eq_getElem_cons hi, (List.getElem?_eq_some_iff.1 hx).2]
  rw [← h.eq]
  conv => rhs; rw [e]
  rw [split_at, split_free h.free, List.append_assoc]
theorem SpI.last {c : UInt8} {l : Tx} {out : List Tx} {a : Nat} (h : SpI c l out a l.length) : out ++ [(l.drop a).take (l.length - a)] = splitB c l := by
  have e : (l.drop a).take (l.length - a) = l.drop a := List.take_of_length_le (by rw [List.length_drop]; exact Nat.le_refl _)
  have hf := h.free
  rw [e] at hf ⊢
  rw [← h.eq, split_free hf]

/-! ### Names, clean paths -/
def chT (b : UInt8) : Bool := decide (33 ≤ b.toNat) && decide (b.toNat ≤ 126) && decide (b ≠ 47)
def nmT (l : Tx) : Bool := l.all chT && decide (l ≠ []) && decide (l.length ≤ 32) && decide (l ≠ [46]) && decide (l ≠ [46, 46])
def okT (l : Tx) : Bool := decide (l.length ≤ 200) && (decide (l = []) || (splitB 47 l).all nmT)
def checkZ (l : Tx) : Int := if okT l = true then 0 else 140
theorem nmT_parts {l : Tx} (h : nmT l = true) : l.all chT = true ∧ l ≠ [] ∧ l.length ≤ 32 ∧ l ≠ [46] ∧ l ≠ [46, 46] := by
  unfold nmT at h
  simp only [Bool.and_eq_true, decide_eq_true_eq] at h
  exact ⟨h.1.1.1.1, h.1.1.1.2, h.1.1.2, h.1.2, h.2⟩
theorem chT_47 : chT 47 = false := by decide
theorem nmT_free {l : Tx} (h : nmT l = true) : (47 : UInt8) ∉ l := fun hc => by
  have := List.all_eq_true.1 (nmT_parts h).1 47 hc
  rw [chT_47] at this
  cases this
theorem okT_parts {l : Tx} (h : okT l = true) (hne : l ≠ []) : l.length ≤ 200 ∧ ∀ p ∈ splitB 47 l, nmT p = true := by
  unfold okT at h
  simp only [Bool.and_eq_true, Bool.or_eq_true, decide_eq_true_eq] at h
  exact ⟨h.1, List.all_eq_true.1 (h.2.resolve_left hne)⟩
theorem okT_len {l : Tx} (h : okT l = true) : l.length ≤ 200 := by
  unfold okT at h
  simp only [Bool.and_eq_true, decide_eq_true_eq] at h
  exact h.1
theorem okT_of {l : Tx} (h1 : l.length ≤ 200) (h2 : ∀ p ∈ splitB 47 l, nmT p = true) : okT l = true := by
  unfold okT
  rw [decide_eq_true h1, List.all_eq_true.2 h2, Bool.or_true]; rfl
theorem okT_nil : okT [] = true := rfl
theorem okT_long {l : Tx} (h : 200 < l.length) : okT l = false := by unfold okT; rw [decide_eq_false (by omega)]; rfl
theorem okT_part {l : Tx} (hne : l ≠ []) {p : Tx} (hp : p ∈ splitB 47 l) (h : nmT p = false) : okT l = false := by
  unfold okT
  rw [decide_eq_false hne, show (splitB 47 l).all nmT = false from List.all_eq_false.2 ⟨p, hp, by rw [h]; simp⟩]
  simp
/-- A path of names. -/
def Names (ps : List Tx) : Prop := ∀ p ∈ ps, nmT p = true
theorem Names.free {ps : List Tx} (h : Names ps) : ∀ p ∈ ps, (47 : UInt8) ∉ p := fun p hp => nmT_free (h p hp)
theorem Names.nil : Names [] := fun _ h => by cases h
theorem Names.snoc {ps : List Tx} {n : Tx} (h : Names ps) (hn : nmT n = true) : Names (ps ++ [n]) := fun p hp => by
  rcases List.mem_append.1 hp with hp | hp
  · exact h p hp
  · rw [List.mem_singleton.1 hp]; exact hn
theorem Names.dropLast {ps : List Tx} (h : Names ps) : Names ps.dropLast := fun p hp => h p (List.dropLast_subset _ hp)
theorem join_nil {ps : List Tx} (h : Names ps) : joinB 47 ps = [] ↔ ps = [] := by
  constructor
  · intro e
    cases ps with
    | nil => rfl
    | cons a r =>
      exfalso
      have ha := (nmT_parts (h a (by simp))).2.1
      cases r with
      | nil => exact ha e
      | cons b r => rw [join_cons (by simp)] at e; simp at e
  · rintro rfl; rfl
theorem join_ok {ps : List Tx} (h : Names ps) (hl : (joinB 47 ps).length ≤ 200) : okT (joinB 47 ps) = true := by
  by_cases e : ps = []
  · subst e; rfl
  · exact okT_of hl (by rw [split_join e h.free]; exact h)

/-! ### Parent, Base, Join, Under, All -/
def parentL (l : Tx) : Tx := joinB 47 (splitB 47 l).dropLast
def baseL (l : Tx) : Tx := (splitB 47 l).getLastD []
def joinT (a b : Tx) : Tx := if a = [] then b else if b = [] then a else a ++ 47 :: b
def underT (p d : Tx) : Bool := decide (d = []) || decide (p = d) || (d ++ [47]).isPrefixOf p
def upTo (l : Tx) (k : Nat) : Tx := joinB 47 ((splitB 47 l).take (k + 1))
def allL (l : Tx) : List Tx := if l = [] then [] else (List.range (splitB 47 l).length).map (upTo l)
theorem parent_at (a : Tx) {b : Tx} (h : (47 : UInt8) ∉ b) : parentL (a ++ 47 :: b) = a ∧ baseL (a ++ 47 :: b) = b := by
  unfold parentL baseL
  rw [split_at, split_free h, List.dropLast_concat, join_split]
  exact ⟨rfl, by simp⟩
theorem parent_none {l : Tx} (h : (47 : UInt8) ∉ l) : parentL l = [] ∧ baseL l = l := by
  unfold parentL baseL
  rw [split_free h]
  exact ⟨rfl, rfl⟩
theorem parent_join {ps : List Tx} (h : ps ≠ []) (hf : ∀ p ∈ ps, (47 : UInt8) ∉ p) : parentL (joinB 47 ps) = joinB 47 ps.dropLast := by
  unfold parentL
  rw [split_join h hf]
theorem joinT_join {ps : List Tx} {n : Tx} (h : Names ps) (hn : n ≠ []) : joinT (joinB 47 ps) n = joinB 47 (ps ++ [n]) := by
  unfold joinT
  by_cases e : ps = []
  · subst e; exact if_pos rfl
  · rw [if_neg (fun e2 => e ((join_nil h).1 e2)), if_neg hn, join_snoc e]
/-- How far all ways are told. -/
structure AlI (l : Tx) (m i : Nat) : Prop where
  len : m + 1 = (splitB 47 (l.take i)).length
  in_ : i ≤ l.length
theorem AlI.zero (l : Tx) : AlI l 0 0 := ⟨rfl, Nat.zero_le _⟩
theorem split_snoc (c : UInt8) (a : Tx) {x : UInt8} (h : x ≠ c) : (splitB c (a ++ [x])).length = (splitB c a).length := by
  induction a with
  | nil => simp [splitB, h]
  | cons y r ih =>
    rw [List.cons_append]
    unfold splitB
    by_cases e : y = c
    · simp [e, ih]
    · simp only [e, if_false]
      cases h1 : splitB c (r ++ [x]) with
      | nil => exact absurd h1 (split_ne _ _)
      | cons p t =>
        cases h2 : splitB c r with
        | nil => exact absurd h2 (split_ne _ _)
        | cons q u => rw [h1, h2] at ih; simpa using ih
theorem AlI.next {l : Tx} {m i : Nat} (h : AlI l m i) {x : UInt8} (hx : l[i]? = some x) (hn : x ≠ 47) : AlI l m (i + 1) := by
  have hi := (List.getElem?_eq_some_iff.1 hx).1
  refine ⟨?_, hi⟩
  rw [List.take_add_one, hx, h.len]
  exact (split_snoc 47 _ hn).symm
theorem AlI.cut {l : Tx} {m i : Nat} (h : AlI l m i) (hx : l[i]? = some 47) : AlI l (m + 1) (i + 1) ∧ upTo l m = l.take i := by
  have hi := (List.getElem?_eq_some_iff.1 hx).1
  refine ⟨⟨?_, hi⟩, ?_⟩
  · rw [List.take_add_one, hx, show (some (47 : UInt8)).toList = 47 :: [] from rfl, split_at, List.length_append, ← h.len]
    rfl
  · have e : l = l.take i ++ 47 :: l.drop (i + 1) := by
      conv => lhs; rw [← List.take_append_drop i l, List.drop_eq_getElem_cons hi, (List.getElem?_eq_some_iff.1 hx).2]
    unfold upTo
    have hs : splitB 47 l = splitB 47 (l.take i) ++ splitB 47 (l.drop (i + 1)) := by
      conv => lhs; rw [e]
      rw [split_at]
    rw [hs, h.len, List.take_left, join_split]
theorem AlI.last {l : Tx} {m : Nat} (h : AlI l m l.length) : m + 1 = (splitB 47 l).length ∧ upTo l m = l := by
  have h1 := h.len
  rw [List.take_length] at h1
  refine ⟨h1, ?_⟩
  unfold upTo
  rw [h1, List.take_length, join_split]
theorem all_len {l : Tx} (h : l ≠ []) : (allL l).length = (splitB 47 l).length := by unfold allL; rw [if_neg h]; simp
theorem all_get {l : Tx} {k : Nat} (h : l ≠ []) (hk : k < (splitB 47 l).length) : (allL l)[k]? = some (upTo l k) := by
  unfold allL
  rw [if_neg h, List.getElem?_map, List.getElem?_range hk]
  rfl

/-! ### Clean, Target -/
def dotL (l : Tx) : Tx := if [46, 47].isPrefixOf l = true then l.drop 2 else l
def endL (l : Tx) : Tx := if l.getLast? = some 47 then l.dropLast else l
def cleanL (l : Tx) : Tx × Int := if l = [46] ∨ l = [46, 47] then ([], 0) else if endL (dotL l) = [] ∨ okT (endL (dotL l)) = false then ([], 140) else (endL (dotL l), 0)
def stepT (cur : Option (List Tx)) (n : Tx) : Option (List Tx) := cur.bind fun ps => if n = [] ∨ n = [46] then some ps else if n = [46, 46] then (if ps = [] then none else some ps.dropLast) else if nmT n = true then some (ps ++ [n]) else none
def startT (a b : Tx) : List Tx := if b.head? = some 47 then [] else (splitB 47 a).dropLast
def goT (a b : Tx) (k : Nat) : Option (List Tx) := ((splitB 47 b).take k).foldl stepT (some (startT a b))
def targetL (a b : Tx) : Tx × Int := if okT a = false ∨ a = [] ∨ b = [] then ([], 140) else match goT a b (splitB 47 b).length with
  | none => ([], 140)
  | some ps => if (joinB 47 ps).length ≤ 200 then (joinB 47 ps, 0) else ([], 140)
theorem start_names {a b : Tx} (h : okT a = true) (hne : a ≠ []) : Names (startT a b) := by
  unfold startT
  by_cases e : b.head? = some 47
  · rw [if_pos e]; exact Names.nil
  · rw [if_neg e]; exact Names.dropLast (okT_parts h hne).2
theorem fold_none : ∀ l : List Tx, l.foldl stepT none = none
  | [] => rfl
  | x :: r => by rw [List.foldl_cons]; exact fold_none r
theorem step_names {ps qs : List Tx} {n : Tx} (h : Names ps) (hs : stepT (some ps) n = some qs) : Names qs := by
  unfold stepT at hs
  simp only [Option.bind_some] at hs
  by_cases h1 : n = [] ∨ n = [46]
  · rw [if_pos h1] at hs; cases hs; exact h
  · rw [if_neg h1] at hs
    by_cases h2 : n = [46, 46]
    · rw [if_pos h2] at hs
      by_cases h3 : ps = []
      · rw [if_pos h3] at hs; cases hs
      · rw [if_neg h3] at hs; cases hs; exact h.dropLast
    · rw [if_neg h2] at hs
      by_cases h3 : nmT n = true
      · rw [if_pos h3] at hs; cases hs; exact h.snoc h3
      · rw [if_neg h3] at hs; cases hs
theorem fold_names : ∀ {l : List Tx} {ps qs : List Tx}, Names ps → l.foldl stepT (some ps) = some qs → Names qs
  | [], ps, qs, h, e => by cases e; exact h
  | x :: r, ps, qs, h, e => by
    rw [List.foldl_cons] at e
    cases hs : stepT (some ps) x with
    | none => rw [hs, fold_none] at e; cases e
    | some t => rw [hs] at e; exact fold_names (step_names h hs) e
theorem goT_zero (a b : Tx) : goT a b 0 = some (startT a b) := rfl
theorem goT_succ {a b : Tx} {k : Nat} {n : Tx} (h : (splitB 47 b)[k]? = some n) : goT a b (k + 1) = stepT (goT a b k) n := by
  unfold goT
  rw [List.take_add_one, h, List.foldl_append]
  rfl
theorem goT_more {a b : Tx} {k : Nat} (h : goT a b k = none) : ∀ {j : Nat}, k ≤ j → goT a b j = none := fun {j} hj => by
  obtain ⟨d, rfl⟩ : ∃ d, j = k + d := ⟨j - k, by omega⟩
  clear hj
  induction d with
  | zero => exact h
  | succ d ih =>
    cases hs : (splitB 47 b)[k + d]? with
    | none =>
      have hl := List.getElem?_eq_none_iff.1 hs
      unfold goT at ih ⊢
      rw [List.take_of_length_le (by omega)] at ih ⊢
      exact ih
    | some n => rw [← Nat.add_assoc, goT_succ hs, ih]; rfl
theorem goT_names {a b : Tx} {k : Nat} {ps : List Tx} (h : okT a = true) (hne : a ≠ []) (hg : goT a b k = some ps) : Names ps := fold_names (start_names h hne) hg

/-! ### What follows -/
theorem clean_ok {l a : Tx} (h : cleanL l = (a, 0)) : okT a = true ∧ (a = [] ∨ cleanL a = (a, 0)) := by
  unfold cleanL at h
  by_cases h1 : l = [46] ∨ l = [46, 47]
  · rw [if_pos h1] at h; cases h; exact ⟨rfl, Or.inl rfl⟩
  · rw [if_neg h1] at h
    by_cases h2 : endL (dotL l) = [] ∨ okT (endL (dotL l)) = false
    · rw [if_pos h2] at h; cases h
    · rw [if_neg h2] at h
      obtain ⟨rfl, -⟩ := Prod.mk.inj h
      generalize endL (dotL l) = b at h2
      have hb : b ≠ [] := fun e => h2 (Or.inl e)
      have hk : okT b = true := by
        cases e : okT b with
        | true => rfl
        | false => exact absurd (Or.inr e) h2
      refine ⟨hk, Or.inr ?_⟩
      have hp := (okT_parts hk hb).2
      have n1 : ¬ (b = [46] ∨ b = [46, 47]) := by
        rintro (rfl | rfl)
        · have := hp [46] (by decide); revert this; decide
        · have := hp [46] (by decide); revert this; decide
      have n2 : dotL b = b := by
        unfold dotL
        by_cases e : [46, 47].isPrefixOf b = true
        · exfalso
          obtain ⟨t, rfl⟩ := List.isPrefixOf_iff_prefix.1 e
          have : splitB 47 ([46, 47] ++ t) = [46] :: splitB 47 t := split_at 47 t [46]
          have := hp [46] (by rw [this]; simp)
          revert this; decide
        · rw [if_neg e]
      have n3 : endL b = b := by
        unfold endL
        by_cases e : b.getLast? = some 47
        · exfalso
          have hd : b = b.dropLast ++ [47] := by
            obtain ⟨ys, rfl⟩ := List.getLast?_eq_some_iff.1 e
            simp
          have : splitB 47 b = splitB 47 b.dropLast ++ [[]] := by
            conv => lhs; rw [hd]
            exact split_at 47 [] b.dropLast
          have := hp [] (by rw [this]; simp)
          revert this; decide
        · rw [if_neg e]
      unfold cleanL
      rw [if_neg n1, n2, n3, if_neg h2]
theorem clean_no {l : Tx} {z : Int} {a : Tx} (h : cleanL l = (a, z)) (hz : z ≠ 0) : a = [] ∧ z = 140 := by
  unfold cleanL at h
  by_cases h1 : l = [46] ∨ l = [46, 47]
  · rw [if_pos h1] at h; cases h; exact absurd rfl hz
  · rw [if_neg h1] at h
    by_cases h2 : endL (dotL l) = [] ∨ okT (endL (dotL l)) = false
    · rw [if_pos h2] at h; cases h; exact ⟨rfl, rfl⟩
    · rw [if_neg h2] at h; cases h; exact absurd rfl hz
theorem join_parts {s : Tx} (h : okT s = true) (hne : s ≠ []) : joinT (parentL s) (baseL s) = s := by
  have hp := (okT_parts h hne).2
  have hs := split_ne 47 s
  have hd : splitB 47 s = (splitB 47 s).dropLast ++ [baseL s] := by
    unfold baseL
    rw [List.getLastD_eq_getLast?, List.getLast?_eq_some_getLast hs]
    exact (List.dropLast_concat_getLast hs).symm
  have hb : nmT (baseL s) = true := hp _ (by rw [hd]; simp)
  have hN : Names (splitB 47 s).dropLast := Names.dropLast hp
  show joinT (joinB 47 _) _ = s
  rw [joinT_join hN (nmT_parts hb).2.1, ← hd, join_split]
theorem names_take {ps : List Tx} (h : Names ps) (k : Nat) : Names (ps.take k) := fun p hp => h p (List.mem_of_mem_take hp)
theorem under_join (ps qs : List Tx) (h : ps ≠ []) : underT (joinB 47 (ps ++ qs)) (joinB 47 ps) = true := by
  unfold underT
  cases qs with
  | nil => rw [List.append_nil]; simp
  | cons q r =>
    have : joinB 47 (ps ++ q :: r) = joinB 47 ps ++ 47 :: joinB 47 (q :: r) := by
      induction ps with
      | nil => exact absurd rfl h
      | cons a t ih =>
        cases t with
        | nil => rfl
        | cons b t => rw [List.cons_append, join_cons (by simp), ih (by simp), join_cons (a := a) (r := b :: t) (by simp), List.append_assoc]; rfl
    rw [this, (List.isPrefixOf_iff_prefix).2 ⟨joinB 47 (q :: r), by simp⟩, Bool.or_true]
theorem all_facts {s : Tx} (h : okT s = true) (hne : s ≠ []) {k : Nat} (hk : k < (splitB 47 s).length) : okT (upTo s k) = true ∧ underT s (upTo s k) = true ∧ ∀ j, j + 1 = k → parentL (upTo s k) = upTo s j := by
  have hp := (okT_parts h hne).2
  have hN : Names (splitB 47 s) := hp
  have ht : (splitB 47 s).take (k + 1) ≠ [] := by
    intro e
    have := congrArg List.length e
    rw [List.length_take] at this
    simp at this
    exact split_ne 47 s this
  have hu := under_join ((splitB 47 s).take (k + 1)) ((splitB 47 s).drop (k + 1)) ht
  rw [List.take_append_drop, join_split] at hu
  have hlen : (upTo s k).length ≤ s.length := by
    unfold underT at hu
    rcases Bool.or_eq_true_iff.1 hu with e | e
    · rcases Bool.or_eq_true_iff.1 e with e | e
      · have := of_decide_eq_true e
        unfold upTo; rw [this]; exact Nat.zero_le _
      · have := of_decide_eq_true e
        unfold upTo; rw [← this]; exact Nat.le_refl _
    · obtain ⟨t, e⟩ := List.isPrefixOf_iff_prefix.1 e
      have := congrArg List.length e
      simp at this
      unfold upTo
      omega
  refine ⟨join_ok (names_take hN _) (Nat.le_trans hlen (okT_len h)), hu, fun j hj => ?_⟩
  subst hj
  unfold upTo
  rw [parent_join ht (names_take hN _).free, List.dropLast_eq_take, List.length_take, List.take_take, show min (min (j + 1 + 1) (splitB 47 s).length - 1) (j + 1 + 1) = j + 1 by omega]
theorem target_no {a b x : Tx} {z : Int} (h : targetL a b = (x, z)) (hz : z ≠ 0) : x = [] ∧ z = 140 := by
  unfold targetL at h
  by_cases h1 : okT a = false ∨ a = [] ∨ b = []
  · rw [if_pos h1] at h; cases h; exact ⟨rfl, rfl⟩
  · rw [if_neg h1] at h
    split at h
    · cases h; exact ⟨rfl, rfl⟩
    · split at h
      · cases h; exact absurd rfl hz
      · cases h; exact ⟨rfl, rfl⟩
theorem fold_push : ∀ {l ps : List Tx}, Names l → l.foldl stepT (some ps) = some (ps ++ l)
  | [], ps, _ => by simp
  | n :: r, ps, h => by
    have hn := h n (by simp)
    have hp := nmT_parts hn
    rw [List.foldl_cons]
    have : stepT (some ps) n = some (ps ++ [n]) := by
      unfold stepT
      simp only [Option.bind_some]
      rw [if_neg (by rintro (e | e); exact hp.2.1 e; exact hp.2.2.2.1 e), if_neg hp.2.2.2.2, if_pos hn]
    rw [this, fold_push (fun p hp => h p (by simp [hp])), List.append_assoc]
    rfl
theorem target_in {a b x : Tx} (h : targetL a b = (x, 0)) : okT a = true ∧ okT x = true ∧ targetL a (47 :: x) = (x, 0) := by
  unfold targetL at h
  by_cases h1 : okT a = false ∨ a = [] ∨ b = []
  · rw [if_pos h1] at h; cases h
  · rw [if_neg h1] at h
    have hk : okT a = true := by
      cases e : okT a with
      | true => rfl
      | false => exact absurd (Or.inl e) h1
    have hne : a ≠ [] := fun e => h1 (Or.inr (Or.inl e))
    split at h
    · cases h
    · rename_i ps hg
      split at h
      · rename_i hl
        obtain ⟨rfl, -⟩ := Prod.mk.inj h
        have hN := goT_names hk hne hg
        refine ⟨hk, join_ok hN hl, ?_⟩
        unfold targetL
        rw [if_neg (by rintro (e | e | e); rw [hk] at e; cases e; exact hne e; cases e)]
        have hs : splitB 47 (47 :: joinB 47 ps) = [] :: splitB 47 (joinB 47 ps) := rfl
        have hg2 : goT a (47 :: joinB 47 ps) (splitB 47 (47 :: joinB 47 ps)).length = some ps := by
          unfold goT
          rw [List.take_length, hs, List.foldl_cons]
          have h0 : stepT (some (startT a (47 :: joinB 47 ps))) [] = some [] := rfl
          rw [h0]
          by_cases e : ps = []
          · subst e; rfl
          · rw [split_join e hN.free, fold_push hN, List.nil_append]
        rw [hg2]
        simp only [hl, if_true]
      · cases h
theorem under_self (p : Tx) : underT p p = true := by unfold underT; simp
theorem under_nil (p : Tx) : underT p [] = true := by unfold underT; simp
theorem under_iff {p d : Tx} : underT p d = true ↔ d = [] ∨ p = d ∨ (d ++ [47]) <+: p := by
  unfold underT
  rw [Bool.or_eq_true, Bool.or_eq_true, decide_eq_true_eq, decide_eq_true_eq, List.isPrefixOf_iff_prefix, or_assoc]
theorem under_trans {p q r : Tx} (h : underT p q = true) (k : underT q r = true) : underT p r = true := by
  rw [under_iff] at *
  rcases k with k | k | k
  · exact Or.inl k
  · subst k; exact h
  · rcases h with h | h | h
    · subst h
      have := k.length_le
      simp at this
    · subst h; exact Or.inr (Or.inr k)
    · exact Or.inr (Or.inr (k.trans ((List.prefix_append q [47]).trans h)))
theorem under_two {p q r : Tx} (h : underT p q = true) (k : underT p r = true) : underT q r = true ∨ underT r q = true := by
  have h' := h
  have k' := k
  rw [under_iff] at h k
  rcases h with h | h | h
  · right; rw [under_iff]; exact Or.inl h
  · subst h; exact Or.inl k'
  · rcases k with k | k | k
    · left; rw [under_iff]; exact Or.inl k
    · subst k; exact Or.inr h'
    · have hq : q <+: p := (List.prefix_append q [47]).trans h
      have hr : r <+: p := (List.prefix_append r [47]).trans k
      rcases Nat.lt_trichotomy q.length r.length with e | e | e
      · right; rw [under_iff]
        exact Or.inr (Or.inr (List.prefix_of_prefix_length_le h hr (by simp; omega)))
      · left; rw [under_iff]
        exact Or.inr (Or.inl ((List.prefix_of_prefix_length_le hq hr (by omega)).eq_of_length e))
      · left; rw [under_iff]
        exact Or.inr (Or.inr (List.prefix_of_prefix_length_le k hq (by simp; omega)))
theorem ex_clean : cleanL [46, 47, 117, 115, 114, 47, 98, 105, 110, 47] = ([117, 115, 114, 47, 98, 105, 110], 0) := by decide
theorem ex_target : targetL [117, 115, 114, 47, 98, 105, 110, 47, 120] [46, 46, 47, 108, 105, 98, 47, 121] = ([117, 115, 114, 47, 108, 105, 98, 47, 121], 0) := by decide
end Go.Proofs.YtgimiggffpokpaaGreatDoor.pt
