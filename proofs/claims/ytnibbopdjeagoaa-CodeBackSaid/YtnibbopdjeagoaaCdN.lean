/-
  CodeBack: its mathematics; a code, a reader and a writer side by side.
-/
import Derived.Test.YtnibbopdjeagoaaCdQ
namespace Go.Proofs.Ytnibbopdjeagoaa.cd
set_option maxRecDepth 100000
open Go.RowKit Go.Maps Go.Proofs.Ytnibbopdjeagoaa.fl
set_option maxRecDepth 100000

/-- The bits of symbols. -/
def encS (l : List Int) (T : List Int) : List Int := T.flatMap fun s => wordB l s.toNat
theorem encS_snoc (l T : List Int) (s : Int) : encS l (T ++ [s]) = encS l T ++ wordB l s.toNat := by unfold encS; rw [List.flatMap_append]; simp
theorem encS_bits (l T : List Int) : AllBit (encS l T) := fun x hx => by
  unfold encS at hx
  obtain ⟨s, _, hs⟩ := List.mem_flatMap.1 hx
  exact wordB_bits l _ x hs
theorem lenN_le {l : List Int} (h : okB l = true) (i : Nat) : lenN l i ≤ 15 := by
  unfold lenN
  cases hi : l[i]? with
  | none => simp
  | some x =>
    have := ((okB_iff l).1 h).2.1 x (List.mem_of_getElem? hi)
    simp
    omega
theorem encS_len {l : List Int} (h : okB l = true) : ∀ T : List Int, (encS l T).length ≤ 15 * T.length
  | [] => by simp [encS]
  | s :: r => by
    have ih := encS_len h r
    unfold encS at *
    rw [List.flatMap_cons, List.length_append, List.length_cons, wordB_length]
    have := lenN_le h s.toNat
    omega
theorem encS_split {l T : List Int} {j : Nat} {s : Int} (h : T[j]? = some s) : encS l T = encS l (T.take j) ++ (wordB l s.toNat ++ encS l (T.drop (j + 1))) := by
  obtain ⟨h1, h2⟩ := List.getElem?_eq_some_iff.1 h
  have e : T = T.take j ++ (s :: T.drop (j + 1)) := by rw [← h2, ← List.drop_eq_getElem_cons h1, List.take_append_drop]
  have : encS l T = encS l (T.take j ++ (s :: T.drop (j + 1))) := by rw [← e]
  rw [this]
  unfold encS
  rw [List.flatMap_append, List.flatMap_cons]
theorem encS_take_succ {l T : List Int} {j : Nat} {s : Int} (h : T[j]? = some s) : encS l (T.take (j + 1)) = encS l (T.take j) ++ wordB l s.toNat := by
  rw [List.take_add_one, h]
  exact encS_snoc _ _ _
theorem mid_get {A B D Z : List Int} {k : Nat} {x : Int} (h : B[k]? = some x) : ((A ++ (B ++ D)) ++ Z)[A.length + k]? = some x := by
  have hk := (List.getElem?_eq_some_iff.1 h).1
  rw [List.append_assoc, List.getElem?_append_right (Nat.le_add_right _ _), Nat.add_sub_cancel_left, List.append_assoc, List.getElem?_append_left hk]
  exact h
theorem has_of {l : List Int} (h : okB l = true) {s : Int} (hs : hasB l s = true) : Has l s.toNat (lenN l s.toNat) := by
  obtain ⟨h1, h2, h3⟩ := (hasB_iff l s).1 hs
  have hi : s.toNat < l.length := by omega
  have hx := List.getElem?_eq_getElem hi
  have hp := (((okB_iff l).1 h).2.1 l[s.toNat] (List.getElem_mem hi)).1
  refine ⟨?_, h3⟩
  rw [hx]
  unfold lenN
  rw [hx]
  simp
  omega
/-- What is read behind the first j symbols. -/
theorem read_at {l T : List Int} (h : okB l = true) {j : Nat} {s : Int} (hj : T[j]? = some s) (hs : hasB l s = true) : rdC l (bitsOf (packI (encS l T))) (encS l (T.take j)).length = (s.toNat, 0, (encS l (T.take (j + 1))).length) := by
  rw [bits_pack (encS_bits l T), encS_take_succ hj, List.length_append, wordB_length]
  refine read_word h (has_of h hs) (fun k x hk => ?_)
  rw [encS_split hj]
  exact mid_get hk
/-- A reader goes on. -/
theorem rd_on : ∀ (W : List (List Int)) (B : List Int) (m : Nat) (got : List Int) (p : Nat), p ≤ (rdW W B m got p).2.2 ∧ ((rdW W B m got p).2.1 = 0 → p + 1 ≤ (rdW W B m got p).2.2) ∧ (p ≤ B.length → (rdW W B m got p).2.2 ≤ B.length) ∧ ((rdW W B m got p).1 ≤ W.length)
  | W, B, 0, got, p => ⟨Nat.le_refl _, fun h => (by cases h), fun h => h, Nat.zero_le _⟩
  | W, B, m + 1, got, p => by
    rw [rdW]
    cases hx : B[p]? with
    | none => exact ⟨Nat.le_refl _, fun h => (by cases h), fun h => h, Nat.zero_le _⟩
    | some x =>
      have hp := (List.getElem?_eq_some_iff.1 hx).1
      cases hf : findW W (got ++ [x]) with
      | some i =>
        simp only [hf]
        refine ⟨by omega, fun _ => Nat.le_refl _, fun _ => by omega, ?_⟩
        unfold findW at hf
        obtain ⟨hlt, _⟩ := List.findIdx?_eq_some_iff_getElem.1 hf
        omega
      | none =>
        simp only [hf]
        obtain ⟨h1, h2, h3, h4⟩ := rd_on W B m (got ++ [x]) (p + 1)
        exact ⟨by omega, fun e => by have := h2 e; omega, fun _ => h3 hp, h4⟩
theorem rdC_on (l B : List Int) (p : Nat) : p ≤ (rdC l B p).2.2 ∧ ((rdC l B p).2.1 = 0 → p + 1 ≤ (rdC l B p).2.2) ∧ (p ≤ B.length → (rdC l B p).2.2 ≤ B.length) ∧ ((rdC l B p).1 ≤ l.length) := by
  have := rd_on (wordsL l) B (mostW (wordsL l)) [] p
  rwa [wordsL_length] at this

section
variable {R : RP} {V : VP} {C : CP}
structure J3 (R : RP) (V : VP) (C : CP) (w0 : World) (c : Addr) (l : List Int) (a : Addr) (b : List UInt8) (v : Addr) (L : List Int) (X : Nat → Prop) (w : World) (p : Nat) : Prop where
  all : ∃ S T U, C w c l S ∧ R w a b p T ∧ V w v L U ∧ (∀ i, S i → w0.heap.size ≤ i ∧ ¬ T i ∧ ¬ X i) ∧ (∀ i, T i → w0.heap.size ≤ i ∧ ¬ U i ∧ ¬ X i) ∧ (∀ i, U i → w0.heap.size ≤ i ∧ ¬ X i)
  fr : Fr (fun _ => False) w0 w
  x : ∀ i, X i → w0.heap.size ≤ i ∧ i < w.heap.size
variable {w0 w w' : World} {c a v : Addr} {l L : List Int} {b : List UInt8} {X : Nat → Prop} {p : Nat}
theorem J3.still (HF : FlowP R V) (HP : CodeP R V C) (h : J3 R V C w0 c l a b v L X w p) (hF : Fr (fun _ => False) w w') : J3 R V C w0 c l a b v L X w' p := by
  obtain ⟨S, T, U, h1, h2, h3, h4, h5, h6⟩ := h.all
  exact ⟨⟨S, T, U, HP.c_keep h1 hF (fun _ _ e => e), HF.r_keep h2 hF (fun _ _ e => e), HF.v_keep h3 hF (fun _ _ e => e), h4, h5, h6⟩, h.fr.trans hF (fun _ _ e => e), fun i hi => ⟨(h.x i hi).1, Nat.lt_of_lt_of_le (h.x i hi).2 hF.size⟩⟩
theorem J3.read (HF : FlowP R V) (HP : CodeP R V C) (h : J3 R V C w0 c l a b v L X w p) : Calls Try.prog 24 #[.pointer (some c), .pointer (some a)] w fun e w' => e = .returned (.tuple #[.int .i64 ((rdC l (bitsOf b) p).1 : Nat), .int .i64 (rdC l (bitsOf b) p).2.1]) ∧ Kp X w w' ∧ J3 R V C w0 c l a b v L X w' (rdC l (bitsOf b) p).2.2 := by
  obtain ⟨S, T, U, h1, h2, h3, h4, h5, h6⟩ := h.all
  refine (HP.read w c l S a b p T h1 h2 (fun i hi => (h4 i hi).2.1)).mono fun e w' g => ?_
  obtain ⟨he, T', g1, g2, g3⟩ := g
  refine ⟨he, fun i hi => g3.block i (h.x i hi).2 (fun hs => (h5 i hs).2.2 hi), ⟨⟨S, T', U, HP.c_keep h1 g3 (fun i hs => (h4 i hs).2.1), g1, HF.v_keep h3 g3 (fun i hu ht => (h5 i ht).2.1 hu), fun i hi => ⟨(h4 i hi).1, fun ht => ?_, (h4 i hi).2.2⟩, fun i hi => ?_, h6⟩, h.fr.trans g3 (fun i hi hs => by have := (h5 i hs).1; omega), fun i hi => ⟨(h.x i hi).1, Nat.lt_of_lt_of_le (h.x i hi).2 g3.size⟩⟩⟩
  · rcases g2 i ht with hs | hs
    · exact (h4 i hi).2.1 hs
    · have := (HP.c_in h1).1 i hi
      omega
  · rcases g2 i hi with hs | hs
    · exact h5 i hs
    · exact ⟨Nat.le_trans h.fr.size hs, fun hu => by have := (HF.v_in h3).1 i hu; omega, fun e => by have := (h.x i e).2; omega⟩
theorem J3.at_ (HF : FlowP R V) (HP : CodeP R V C) (h : J3 R V C w0 c l a b v L X w p) : Calls Try.prog 26 #[.pointer (some a)] w fun e w' => e = .returned (.int .i64 (p : Int)) ∧ J3 R V C w0 c l a b v L X w' p := by
  obtain ⟨S, T, U, h1, h2, h3, h4, h5, h6⟩ := h.all
  exact (HF.at_ w a b p T h2).mono fun _ _ g => ⟨g.1, h.still HF HP g.2.fr⟩
theorem J3.len (HF : FlowP R V) (HP : CodeP R V C) (h : J3 R V C w0 c l a b v L X w p) : Calls Try.prog 31 #[.pointer (some v)] w fun e w' => e = .returned (.int .i64 (L.length : Int)) ∧ J3 R V C w0 c l a b v L X w' p := by
  obtain ⟨S, T, U, h1, h2, h3, h4, h5, h6⟩ := h.all
  exact (HF.len w v L U h3).mono fun _ _ g => ⟨g.1, h.still HF HP g.2.fr⟩
/-- A new reader beside a code and a writer. -/
theorem JV.reader (HF : FlowP R V) (HP : CodeP R V C) (h : JV V C w0 c l v X w L) (A : Option Addr) (cap : Nat) (b : List UInt8) (hr : Rd w w.heap.size A b) (hA : A = none → cap = 0) (hc : b.length ≤ cap) (hb : b.length ≤ 140737488351232) : Calls Try.prog 22 #[.slice A b.length cap] w fun e w' => ∃ a, e = .returned (.pointer (some a)) ∧ Kp X w w' ∧ J3 R V C w0 c l a b v L X w' 0 := by
  obtain ⟨S, U, h1, h3, h4, h6⟩ := h.cv
  refine (HF.new w A cap b hr hA hc hb).mono fun e w' g => ?_
  obtain ⟨a, T, he, g1, g2, g3⟩ := g
  refine ⟨a, he, fun i hi => g3.block i (h.x i hi).2 (fun e => e), ⟨⟨S, T, U, HP.c_keep h1 g3 (fun _ _ e => e), g1, HF.v_keep h3 g3 (fun _ _ e => e), fun i hi => ⟨(h4 i hi).1, fun ht => ?_, (h4 i hi).2.2⟩, fun i hi => ⟨Nat.le_trans h.fr.size (g2 i hi), fun hu => ?_, fun e => ?_⟩, h6⟩, h.fr.trans g3 (fun _ _ e => e), fun i hi => ⟨(h.x i hi).1, Nat.lt_of_lt_of_le (h.x i hi).2 g3.size⟩⟩⟩
  · have := (HP.c_in h1).1 i hi
    have := g2 i ht
    omega
  · have := (HF.v_in h3).1 i hu
    have := g2 i hi
    omega
  · have := (h.x i e).2
    have := g2 i hi
    omega
end
end Go.Proofs.Ytnibbopdjeagoaa.cd
