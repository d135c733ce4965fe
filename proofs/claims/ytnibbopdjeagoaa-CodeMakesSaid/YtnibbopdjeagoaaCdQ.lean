/-
  What is asked of the program's codes.
-/
import Derived.Test.YtnibbopdjeagoaaCdM
namespace Go.Proofs.Ytnibbopdjeagoaa.cd
set_option maxRecDepth 100000
open Go.RowKit Go.Maps Go.Proofs.Ytnibbopdjeagoaa.fl
set_option maxRecDepth 100000

abbrev CP := World → Addr → List Int → (Nat → Prop) → Prop
/-- Has the symbol a code? -/
def hasB (l : List Int) (s : Int) : Bool := decide (0 ≤ s) && decide (s < l.length) && decide (0 < lenN l s.toNat)
def symV (l : List Int) (s : Int) : Int × Int × Int := if hasB l s = true then ((wordN l s.toNat : Nat), (lenN l s.toNat : Nat), 0) else (0, 0, 5)
def symZ (l : List Int) (s : Int) : Int := if hasB l s = true then 0 else 5
def symL (l : List Int) (s : Int) (L : List Int) : List Int := if hasB l s = true then L ++ wordB l s.toNat else L
/-- The fixed lengths. -/
def fixI : List Int := (List.range 288).map fun i => if i ≤ 143 then 8 else if i ≤ 255 then 9 else if i ≤ 279 then 7 else 8
theorem hasB_iff (l : List Int) (s : Int) : hasB l s = true ↔ 0 ≤ s ∧ s < l.length ∧ 0 < lenN l s.toNat := by
  unfold hasB
  simp [and_assoc]
/-- The program's codes, as the chapter has them. -/
structure CodeP (R : RP) (V : VP) (C : CP) : Prop where
  c_keep : ∀ {w w' : World} {a : Addr} {l : List Int} {S S' : Nat → Prop}, C w a l S → Fr S' w w' → (∀ i, S i → ¬ S' i) → C w' a l S
  c_in : ∀ {w : World} {a : Addr} {l : List Int} {S : Nat → Prop}, C w a l S → (∀ i, S i → i < w.heap.size) ∧ okB l = true
  new_ok : ∀ (w : World) (A : Option Addr) (cap : Nat) (l : List Int), RdI w w.heap.size A l → (A = none → cap = 0) → l.length ≤ cap → l.length ≤ 140737488351232 → okB l = true → Calls Try.prog 10 #[.slice A l.length cap] w fun e w' => ∃ a S, e = .returned (.tuple #[.pointer (some a), .int .i64 0]) ∧ C w' a l S ∧ (∀ i, S i → w.heap.size ≤ i) ∧ Fr (fun _ => False) w w'
  new_no : ∀ (w : World) (A : Option Addr) (cap : Nat) (l : List Int), RdI w w.heap.size A l → (A = none → cap = 0) → l.length ≤ cap → l.length ≤ 140737488351232 → okB l = false → Calls Try.prog 10 #[.slice A l.length cap] w fun e w' => e = .returned (.tuple #[.pointer none, .int .i64 100]) ∧ Fr (fun _ => False) w w'
  read : ∀ (w : World) (c : Addr) (l : List Int) (S : Nat → Prop) (r : Addr) (b : List UInt8) (p : Nat) (T : Nat → Prop), C w c l S → R w r b p T → (∀ i, S i → ¬ T i) → Calls Try.prog 24 #[.pointer (some c), .pointer (some r)] w fun e w' => e = .returned (.tuple #[.int .i64 ((rdC l (bitsOf b) p).1 : Nat), .int .i64 (rdC l (bitsOf b) p).2.1]) ∧ RAft R w r b T (rdC l (bitsOf b) p).2.2 w'
  word : ∀ (w : World) (c : Addr) (l : List Int) (S : Nat → Prop) (s : Int), C w c l S → Big s → Calls Try.prog 18 #[.pointer (some c), .int .i64 s] w fun e w' => e = .returned (.tuple #[.int .i64 (symV l s).1, .int .i64 (symV l s).2.1, .int .i64 (symV l s).2.2]) ∧ Fr (fun _ => False) w w'
  write : ∀ (w : World) (c : Addr) (l : List Int) (S : Nat → Prop) (a : Addr) (L : List Int) (T : Nat → Prop) (s : Int), C w c l S → V w a L T → (∀ i, S i → ¬ T i) → L.length ≤ 900000 → Big s → Calls Try.prog 29 #[.pointer (some c), .pointer (some a), .int .i64 s] w fun e w' => e = .returned (.int .i64 (symZ l s)) ∧ VAft V w a T (symL l s L) w'
  symbols : ∀ (w : World) (c : Addr) (l : List Int) (S : Nat → Prop), C w c l S → Calls Try.prog 20 #[.pointer (some c)] w fun e w' => e = .returned (.int .i64 (codesN l : Nat)) ∧ Fr (fun _ => False) w w'
  room : ∀ (w : World) (A : Option Addr) (cap : Nat) (l : List Int), RdI w w.heap.size A l → (A = none → cap = 0) → l.length ≤ cap → l.length ≤ 140737488351232 → Calls Try.prog 12 #[.slice A l.length cap] w fun e w' => e = .returned (.int .i64 (roomI l)) ∧ Fr (fun _ => False) w w'
  fixed : ∀ (w : World), Calls Try.prog 15 #[] w (NewL w fixI)

section
variable {R : RP} {V : VP} {C : CP}
/-- A code, a reader, and blocks of the law's, that were made behind w0. -/
structure JC (R : RP) (C : CP) (w0 : World) (c : Addr) (l : List Int) (a : Addr) (b : List UInt8) (X : Nat → Prop) (w : World) (p : Nat) : Prop where
  cr : ∃ S T, C w c l S ∧ R w a b p T ∧ (∀ i, S i → w0.heap.size ≤ i ∧ ¬ T i ∧ ¬ X i) ∧ (∀ i, T i → w0.heap.size ≤ i ∧ ¬ X i)
  fr : Fr (fun _ => False) w0 w
  x : ∀ i, X i → w0.heap.size ≤ i ∧ i < w.heap.size
variable {w0 w w' : World} {c a : Addr} {l : List Int} {b : List UInt8} {X : Nat → Prop} {p : Nat}
theorem JC.still (HF : FlowP R V) (HP : CodeP R V C) (h : JC R C w0 c l a b X w p) (hF : Fr (fun _ => False) w w') : JC R C w0 c l a b X w' p := by
  obtain ⟨S, T, h1, h2, h3, h4⟩ := h.cr
  exact ⟨⟨S, T, HP.c_keep h1 hF (fun _ _ e => e), HF.r_keep h2 hF (fun _ _ e => e), h3, h4⟩, h.fr.trans hF (fun _ _ e => e), fun i hi => ⟨(h.x i hi).1, Nat.lt_of_lt_of_le (h.x i hi).2 hF.size⟩⟩
/-- The law turns blocks of its own, and makes new ones. -/
theorem JC.xaft (HF : FlowP R V) (HP : CodeP R V C) (h : JC R C w0 c l a b X w p) (hF : Fr X w w') : JC R C w0 c l a b (fun i => X i ∨ (w.heap.size ≤ i ∧ i < w'.heap.size)) w' p := by
  obtain ⟨S, T, h1, h2, h3, h4⟩ := h.cr
  refine ⟨⟨S, T, HP.c_keep h1 hF (fun i hs => (h3 i hs).2.2), HF.r_keep h2 hF (fun i hs => (h4 i hs).2), fun i hi => ⟨(h3 i hi).1, (h3 i hi).2.1, fun e => ?_⟩, fun i hi => ⟨(h4 i hi).1, fun e => ?_⟩⟩, h.fr.trans hF (fun i hi e => by have := (h.x i e).1; omega), fun i e => ?_⟩
  · rcases e with e | e
    · exact (h3 i hi).2.2 e
    · have := (HP.c_in h1).1 i hi
      omega
  · rcases e with e | e
    · exact (h4 i hi).2 e
    · have := (HF.r_in h2).1 i hi
      omega
  · rcases e with e | e
    · exact ⟨(h.x i e).1, Nat.lt_of_lt_of_le (h.x i e).2 hF.size⟩
    · exact ⟨Nat.le_trans h.fr.size e.1, e.2⟩
theorem JC.less {Y : Nat → Prop} (h : JC R C w0 c l a b X w p) (hY : ∀ i, Y i → X i) : JC R C w0 c l a b Y w p := by
  obtain ⟨S, T, h1, h2, h3, h4⟩ := h.cr
  exact ⟨⟨S, T, h1, h2, fun i hi => ⟨(h3 i hi).1, (h3 i hi).2.1, fun e => (h3 i hi).2.2 (hY i e)⟩, fun i hi => ⟨(h4 i hi).1, fun e => (h4 i hi).2 (hY i e)⟩⟩, h.fr, fun i e => h.x i (hY i e)⟩
theorem JC.ok (HP : CodeP R V C) (h : JC R C w0 c l a b X w p) : okB l = true := by
  obtain ⟨S, T, h1, _⟩ := h.cr
  exact (HP.c_in h1).2
theorem JC.le (HF : FlowP R V) (h : JC R C w0 c l a b X w p) : p ≤ 8 * b.length := by
  obtain ⟨S, T, _, h2, _⟩ := h.cr
  exact (HF.r_in h2).2
theorem JC.read (_ : FlowP R V) (HP : CodeP R V C) (h : JC R C w0 c l a b X w p) : Calls Try.prog 24 #[.pointer (some c), .pointer (some a)] w fun e w' => e = .returned (.tuple #[.int .i64 ((rdC l (bitsOf b) p).1 : Nat), .int .i64 (rdC l (bitsOf b) p).2.1]) ∧ Kp X w w' ∧ JC R C w0 c l a b X w' (rdC l (bitsOf b) p).2.2 ∧ w.heap.size ≤ w'.heap.size := by
  obtain ⟨S, T, h1, h2, h3, h4⟩ := h.cr
  refine (HP.read w c l S a b p T h1 h2 (fun i hi => (h3 i hi).2.1)).mono fun e w' g => ?_
  obtain ⟨he, T', g1, g2, g3⟩ := g
  refine ⟨he, fun i hi => g3.block i (h.x i hi).2 (fun hs => (h4 i hs).2 hi), ⟨⟨S, T', HP.c_keep h1 g3 (fun i hs => (h3 i hs).2.1), g1, fun i hi => ⟨(h3 i hi).1, fun ht => ?_, (h3 i hi).2.2⟩, fun i hi => ?_⟩, h.fr.trans g3 (fun i hi hs => by have := (h4 i hs).1; omega), fun i hi => ⟨(h.x i hi).1, Nat.lt_of_lt_of_le (h.x i hi).2 g3.size⟩⟩, g3.size⟩
  · rcases g2 i ht with hs | hs
    · exact (h3 i hi).2.1 hs
    · have := (HP.c_in h1).1 i hi
      omega
  · rcases g2 i hi with hs | hs
    · exact h4 i hs
    · exact ⟨Nat.le_trans h.fr.size hs, fun e => by have := (h.x i e).2; omega⟩
theorem JC.at_ (HF : FlowP R V) (HP : CodeP R V C) (h : JC R C w0 c l a b X w p) : Calls Try.prog 26 #[.pointer (some a)] w fun e w' => e = .returned (.int .i64 (p : Int)) ∧ Calm w w' ∧ JC R C w0 c l a b X w' p := by
  obtain ⟨S, T, h1, h2, h3, h4⟩ := h.cr
  exact (HF.at_ w a b p T h2).mono fun _ _ g => ⟨g.1, g.2, h.still HF HP g.2.fr⟩
theorem JC.left (HF : FlowP R V) (HP : CodeP R V C) (h : JC R C w0 c l a b X w p) : Calls Try.prog 32 #[.pointer (some a)] w fun e w' => e = .returned (.int .i64 ((8 * b.length - p : Nat) : Int)) ∧ Calm w w' ∧ JC R C w0 c l a b X w' p := by
  obtain ⟨S, T, h1, h2, h3, h4⟩ := h.cr
  exact (HF.left w a b p T h2).mono fun _ _ g => ⟨g.1, g.2, h.still HF HP g.2.fr⟩
/-- A code and a writer that were made behind w0. -/
structure JV (V : VP) (C : CP) (w0 : World) (c : Addr) (l : List Int) (a : Addr) (X : Nat → Prop) (w : World) (L : List Int) : Prop where
  cv : ∃ S T, C w c l S ∧ V w a L T ∧ (∀ i, S i → w0.heap.size ≤ i ∧ ¬ T i ∧ ¬ X i) ∧ (∀ i, T i → w0.heap.size ≤ i ∧ ¬ X i)
  fr : Fr (fun _ => False) w0 w
  x : ∀ i, X i → w0.heap.size ≤ i ∧ i < w.heap.size
theorem JV.still {L : List Int} (HF : FlowP R V) (HP : CodeP R V C) (h : JV V C w0 c l a X w L) (hF : Fr (fun _ => False) w w') : JV V C w0 c l a X w' L := by
  obtain ⟨S, T, h1, h2, h3, h4⟩ := h.cv
  exact ⟨⟨S, T, HP.c_keep h1 hF (fun _ _ e => e), HF.v_keep h2 hF (fun _ _ e => e), h3, h4⟩, h.fr.trans hF (fun _ _ e => e), fun i hi => ⟨(h.x i hi).1, Nat.lt_of_lt_of_le (h.x i hi).2 hF.size⟩⟩
theorem JV.less {L : List Int} {Y : Nat → Prop} (h : JV V C w0 c l a X w L) (hY : ∀ i, Y i → X i) : JV V C w0 c l a Y w L := by
  obtain ⟨S, T, h1, h2, h3, h4⟩ := h.cv
  exact ⟨⟨S, T, h1, h2, fun i hi => ⟨(h3 i hi).1, (h3 i hi).2.1, fun e => (h3 i hi).2.2 (hY i e)⟩, fun i hi => ⟨(h4 i hi).1, fun e => (h4 i hi).2 (hY i e)⟩⟩, h.fr, fun i e => h.x i (hY i e)⟩
theorem JV.xaft {L : List Int} (HF : FlowP R V) (HP : CodeP R V C) (h : JV V C w0 c l a X w L) (hF : Fr X w w') : JV V C w0 c l a (fun i => X i ∨ (w.heap.size ≤ i ∧ i < w'.heap.size)) w' L := by
  obtain ⟨S, T, h1, h2, h3, h4⟩ := h.cv
  refine ⟨⟨S, T, HP.c_keep h1 hF (fun i hs => (h3 i hs).2.2), HF.v_keep h2 hF (fun i hs => (h4 i hs).2), fun i hi => ⟨(h3 i hi).1, (h3 i hi).2.1, fun e => ?_⟩, fun i hi => ⟨(h4 i hi).1, fun e => ?_⟩⟩, h.fr.trans hF (fun i hi e => by have := (h.x i e).1; omega), fun i e => ?_⟩
  · rcases e with e | e
    · exact (h3 i hi).2.2 e
    · have := (HP.c_in h1).1 i hi
      omega
  · rcases e with e | e
    · exact (h4 i hi).2 e
    · have := (HF.v_in h2).1 i hi
      omega
  · rcases e with e | e
    · exact ⟨(h.x i e).1, Nat.lt_of_lt_of_le (h.x i e).2 hF.size⟩
    · exact ⟨Nat.le_trans h.fr.size e.1, e.2⟩
theorem JV.write {L : List Int} (_ : FlowP R V) (HP : CodeP R V C) (h : JV V C w0 c l a X w L) (s : Int) (hL : L.length ≤ 900000) (hs : Big s) : Calls Try.prog 29 #[.pointer (some c), .pointer (some a), .int .i64 s] w fun e w' => e = .returned (.int .i64 (symZ l s)) ∧ Kp X w w' ∧ JV V C w0 c l a X w' (symL l s L) ∧ w.heap.size ≤ w'.heap.size := by
  obtain ⟨S, T, h1, h2, h3, h4⟩ := h.cv
  refine (HP.write w c l S a L T s h1 h2 (fun i hi => (h3 i hi).2.1) hL hs).mono fun e w' g => ?_
  obtain ⟨he, T', g1, g2, g3⟩ := g
  refine ⟨he, fun i hi => g3.block i (h.x i hi).2 (fun hs => (h4 i hs).2 hi), ⟨⟨S, T', HP.c_keep h1 g3 (fun i hs => (h3 i hs).2.1), g1, fun i hi => ⟨(h3 i hi).1, fun ht => ?_, (h3 i hi).2.2⟩, fun i hi => ?_⟩, h.fr.trans g3 (fun i hi hs => by have := (h4 i hs).1; omega), fun i hi => ⟨(h.x i hi).1, Nat.lt_of_lt_of_le (h.x i hi).2 g3.size⟩⟩, g3.size⟩
  · rcases g2 i ht with hs | hs
    · exact (h3 i hi).2.1 hs
    · have := (HP.c_in h1).1 i hi
      omega
  · rcases g2 i hi with hs | hs
    · exact h4 i hs
    · exact ⟨Nat.le_trans h.fr.size hs, fun e => by have := (h.x i e).2; omega⟩
/-- All bytes of the writer; and a new reader of them. -/
theorem JV.all {L : List Int} (HF : FlowP R V) (HP : CodeP R V C) (h : JV V C w0 c l a X w L) (hL : L.length ≤ 1000000) : Calls Try.prog 30 #[.pointer (some a)] w fun e w' => ∃ A cap, e = .returned (.slice A (packI L).length cap) ∧ Own w' w.heap.size (.slice A (packI L).length cap) (packI L) ∧ Kp X w w' ∧ JV V C w0 c l a X w' L := by
  obtain ⟨S, T, h1, h2, h3, h4⟩ := h.cv
  refine (HF.all w a L T h2 hL).mono fun e w' g => ?_
  obtain ⟨A, cap, T', rfl, ho, g1, g2, g3⟩ := g
  refine ⟨A, cap, rfl, ho, fun i hi => g3.block i (h.x i hi).2 (fun hs => (h4 i hs).2 hi), ⟨⟨S, T', HP.c_keep h1 g3 (fun i hs => (h3 i hs).2.1), g1, fun i hi => ⟨(h3 i hi).1, fun ht => ?_, (h3 i hi).2.2⟩, fun i hi => ?_⟩, h.fr.trans g3 (fun i hi hs => by have := (h4 i hs).1; omega), fun i hi => ⟨(h.x i hi).1, Nat.lt_of_lt_of_le (h.x i hi).2 g3.size⟩⟩⟩
  · rcases (g2 i ht).1 with hs | hs
    · exact (h3 i hi).2.1 hs
    · have := (HP.c_in h1).1 i hi
      omega
  · rcases (g2 i hi).1 with hs | hs
    · exact h4 i hs
    · exact ⟨Nat.le_trans h.fr.size hs, fun e => by have := (h.x i e).2; omega⟩
end
end Go.Proofs.Ytnibbopdjeagoaa.cd
