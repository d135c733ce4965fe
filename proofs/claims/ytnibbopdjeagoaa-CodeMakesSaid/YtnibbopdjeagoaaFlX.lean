/-
  FlowBack: its mathematics; a reader, a writer and the law's own blocks.
-/
import Derived.Test.YtnibbopdjeagoaaFlV
import Derived.Test.YtnibbopdjeagoaaFlS
namespace Go.Proofs.Ytnibbopdjeagoaa.fl
set_option maxRecDepth 100000
open Go.RowKit Go.Maps
set_option maxRecDepth 100000

/-- The bits of a call that was taken. -/
def encF (x : AF) : List Int := if amongZ x.do_ 2 = 0 then lowL x.n x.bits else (lowL x.n x.bits).reverse
def encT (T : List AF) : List Int := T.flatMap encF
theorem encT_snoc (T : List AF) (x : AF) : encT (T ++ [x]) = encT T ++ encF x := by unfold encT; rw [List.flatMap_append]; simp
theorem encF_len {x : AF} {K : Nat} (hl : lowB x.n x.bits = true) (hk : x.bits = K) : (encF x).length = K ∧ K ≤ 24 := by
  have hm : mayB x.n x.bits = true := by unfold lowB at hl; exact (Bool.and_eq_true_iff.1 hl).1
  have h3 := (mayB_iff _ _).1 hm
  have e : (lowL x.n x.bits).length = K := by
    unfold lowL
    rw [if_pos hm, lowI_length, hk]
    omega
  unfold encF
  refine ⟨?_, by omega⟩
  by_cases h : amongZ x.do_ 2 = 0
  · rw [if_pos h, e]
  · rw [if_neg h, List.length_reverse, e]
theorem encT_len : ∀ (T : List AF), (encT T).length ≤ 24 * T.length
  | [] => by simp [encT]
  | x :: r => by
    have ih := encT_len r
    unfold encT at *
    rw [List.flatMap_cons, List.length_append, List.length_cons]
    have : (encF x).length ≤ 24 := by
      unfold encF
      have := lowL_len x.n x.bits
      by_cases h : amongZ x.do_ 2 = 0
      · rw [if_pos h]; exact this
      · rw [if_neg h, List.length_reverse]; exact this
    omega
/-- Where a call's bits stand. -/
theorem enc_drop {T : List AF} {j : Nat} {x : AF} (h : T[j]? = some x) : encT T = encT (T.take j) ++ (encF x ++ encT (T.drop (j + 1))) := by
  obtain ⟨h1, h2⟩ := List.getElem?_eq_some_iff.1 h
  have e : T = T.take j ++ (x :: T.drop (j + 1)) := by rw [← h2, ← List.drop_eq_getElem_cons h1, List.take_append_drop]
  have : encT T = encT (T.take j ++ (x :: T.drop (j + 1))) := by rw [← e]
  rw [this]
  unfold encT
  rw [List.flatMap_append, List.flatMap_cons]
theorem enc_take_succ {T : List AF} {j : Nat} {x : AF} (h : T[j]? = some x) : encT (T.take (j + 1)) = encT (T.take j) ++ encF x := by
  rw [List.take_add_one, h]
  exact encT_snoc _ _
/-- A number of bits that stands there is taken. -/
theorem take_mid {A B C : List Int} {K : Nat} (hk : K ≤ 24) (hb : B.length = K) : takeV (A ++ (B ++ C)) A.length (K : Int) = (numI B, 0) ∧ takeA (A ++ (B ++ C)) A.length (K : Int) = A.length + K := by
  have hl : ¬ (((A ++ (B ++ C)).length : Int) - A.length < K) := by rw [List.length_append, List.length_append]; omega
  have ht : ((A ++ (B ++ C)).drop A.length).take K = B := by rw [List.drop_left, ← hb, List.take_left]
  have h1 := (takeV_in (L := A ++ (B ++ C)) (p := A.length) hk).1
  have h2 := (takeV_in (L := A ++ (B ++ C)) (p := A.length) hk).2
  rw [if_neg hl] at h1 h2
  rw [ht] at h1
  exact ⟨h1, h2⟩
/-- A number that goes into so many bits is their worth. -/
theorem low_back {n : Int} {K : Nat} (hl : lowB n K = true) : numI (lowL n K) = n := by
  unfold lowB at hl
  obtain ⟨hm, hd⟩ := Bool.and_eq_true_iff.1 hl
  have h3 := (mayB_iff _ _).1 hm
  have hd2 : n / 2 ^ K = 0 := by simpa using hd
  unfold lowL
  rw [if_pos hm, Int.toNat_natCast, numI_low]
  have hpos : (0 : Int) < 2 ^ K := Int.pow_pos (by omega)
  have := Int.emod_add_mul_ediv n (2 ^ K)
  rw [hd2, Int.mul_zero, Int.add_zero] at this
  exact this
/-- Of a number, its first k bits out of K, the highest first. -/
def hiV (n : Int) (K k : Nat) : Int := n / 2 ^ (K - k)
theorem hiV_step {n : Int} {K k : Nat} (hk : k < K) : hiV n K (k + 1) = 2 * hiV n K k + n / 2 ^ (K - 1 - k) % 2 := by
  unfold hiV
  have e : K - k = (K - (k + 1)) + 1 := by omega
  rw [e, Int.pow_succ, ← Int.ediv_ediv_of_nonneg (Int.pow_nonneg (by omega)), show K - 1 - k = K - (k + 1) by omega]
  omega
theorem lowI_get : ∀ (K : Nat) (n : Int) (i : Nat), i < K → (lowI n K)[i]? = some (n / 2 ^ i % 2)
  | 0, _, _, h => by omega
  | K + 1, n, 0, _ => by simp [lowI]
  | K + 1, n, i + 1, h => by
    rw [lowI, List.getElem?_cons_succ, lowI_get K (n / 2) i (by omega), ediv_pow_succ]
theorem rev_get {n : Int} {K k : Nat} (hk : k < K) : ((lowI n K).reverse)[k]? = some (n / 2 ^ (K - 1 - k) % 2) := by
  rw [List.getElem?_reverse (by rw [lowI_length]; exact hk), lowI_length]
  exact lowI_get K n (K - 1 - k) (by omega)
/-- One bit that stands there is taken. -/
theorem take_bit {A B C : List Int} {k : Nat} {x : Int} (h : B[k]? = some x) : takeV (A ++ (B ++ C)) (A.length + k) 1 = (x, 0) ∧ takeA (A ++ (B ++ C)) (A.length + k) 1 = A.length + (k + 1) := by
  obtain ⟨h1, h2⟩ := List.getElem?_eq_some_iff.1 h
  have e : A ++ (B ++ C) = (A ++ B.take k) ++ ([x] ++ (B.drop (k + 1) ++ C)) := by
    have : B = B.take k ++ (x :: B.drop (k + 1)) := by rw [← h2, ← List.drop_eq_getElem_cons h1, List.take_append_drop]
    conv => lhs; rw [this]
    simp
  have hl : (A ++ B.take k).length = A.length + k := by rw [List.length_append, List.length_take]; omega
  have ht := take_mid (A := A ++ B.take k) (B := [x]) (C := B.drop (k + 1) ++ C) (K := 1) (by omega) rfl
  rw [hl, ← e] at ht
  refine ⟨?_, by rw [← Nat.add_assoc]; exact ht.2⟩
  have := ht.1
  simpa [numI] using this

section
variable {R : RP} {V : VP}
/-- A reader and a writer that were made behind w0, and blocks of the law's. -/
structure JB (R : RP) (V : VP) (w0 : World) (a : Addr) (b : List UInt8) (a2 : Addr) (L : List Int) (X : Nat → Prop) (w : World) (p : Nat) : Prop where
  rv : ∃ S T, R w a b p S ∧ V w a2 L T ∧ (∀ i, S i → w0.heap.size ≤ i ∧ ¬ T i ∧ ¬ X i) ∧ (∀ i, T i → w0.heap.size ≤ i ∧ ¬ X i)
  fr : Fr (fun _ => False) w0 w
  x : ∀ i, X i → w0.heap.size ≤ i ∧ i < w.heap.size
variable {w0 w w' : World} {a a2 : Addr} {b : List UInt8} {L : List Int} {X : Nat → Prop} {p : Nat}
theorem JB.still (HP : FlowP R V) (h : JB R V w0 a b a2 L X w p) (hF : Fr (fun _ => False) w w') : JB R V w0 a b a2 L X w' p := by
  obtain ⟨S, T, h1, h2, h3, h4⟩ := h.rv
  exact ⟨⟨S, T, HP.r_keep h1 hF (fun _ _ e => e), HP.v_keep h2 hF (fun _ _ e => e), h3, h4⟩, h.fr.trans hF (fun _ _ e => e), fun i hi => ⟨(h.x i hi).1, Nat.lt_of_lt_of_le (h.x i hi).2 hF.size⟩⟩
theorem JB.less {Y : Nat → Prop} (h : JB R V w0 a b a2 L X w p) (hY : ∀ i, Y i → X i) : JB R V w0 a b a2 L Y w p := by
  obtain ⟨S, T, h1, h2, h3, h4⟩ := h.rv
  exact ⟨⟨S, T, h1, h2, fun i hi => ⟨(h3 i hi).1, (h3 i hi).2.1, fun e => (h3 i hi).2.2 (hY i e)⟩, fun i hi => ⟨(h4 i hi).1, fun e => (h4 i hi).2 (hY i e)⟩⟩, h.fr, fun i e => h.x i (hY i e)⟩
theorem JB.fresh (HP : FlowP R V) (h : JB R V w0 a b a2 L X w p) (hF : Fr (fun _ => False) w w') : JB R V w0 a b a2 L (fun i => X i ∨ (w.heap.size ≤ i ∧ i < w'.heap.size)) w' p := by
  obtain ⟨S, T, h1, h2, h3, h4⟩ := h.rv
  refine ⟨⟨S, T, HP.r_keep h1 hF (fun _ _ e => e), HP.v_keep h2 hF (fun _ _ e => e), fun i hi => ⟨(h3 i hi).1, (h3 i hi).2.1, fun e => ?_⟩, fun i hi => ⟨(h4 i hi).1, fun e => ?_⟩⟩, h.fr.trans hF (fun _ _ e => e), fun i e => ?_⟩
  · rcases e with e | e
    · exact (h3 i hi).2.2 e
    · have := (HP.r_in h1).1 i hi
      omega
  · rcases e with e | e
    · exact (h4 i hi).2 e
    · have := (HP.v_in h2).1 i hi
      omega
  · rcases e with e | e
    · exact ⟨(h.x i e).1, Nat.lt_of_lt_of_le (h.x i e).2 hF.size⟩
    · exact ⟨Nat.le_trans h.fr.size e.1, e.2⟩
theorem JB.take (HP : FlowP R V) (h : JB R V w0 a b a2 L X w p) (n : Int) (hn : Big n) : Calls Try.prog 46 #[.pointer (some a), .int .i64 n] w fun e w' => e = .returned (.tuple #[.int .i64 (takeV (bitsOf b) p n).1, .int .i64 (takeV (bitsOf b) p n).2]) ∧ Kp X w w' ∧ JB R V w0 a b a2 L X w' (takeA (bitsOf b) p n) := by
  obtain ⟨S, T, h1, h2, h3, h4⟩ := h.rv
  refine (HP.take w a b p S n h1 hn).mono fun e w' g => ?_
  obtain ⟨he, S', g1, g2, g3⟩ := g
  refine ⟨he, fun i hi => g3.block i (h.x i hi).2 (fun hs => (h3 i hs).2.2 hi), ⟨⟨S', T, g1, HP.v_keep h2 g3 (fun i ht hs => (h3 i hs).2.1 ht), fun i hi => ?_, h4⟩, h.fr.trans g3 (fun i hi hs => by have := (h3 i hs).1; omega), fun i hi => ⟨(h.x i hi).1, Nat.lt_of_lt_of_le (h.x i hi).2 g3.size⟩⟩⟩
  rcases g2 i hi with hs | hs
  · exact h3 i hs
  · exact ⟨Nat.le_trans h.fr.size hs, fun ht => by have := (HP.v_in h2).1 i ht; omega, fun e => by have := (h.x i e).2; omega⟩
theorem JB.at_ (HP : FlowP R V) (h : JB R V w0 a b a2 L X w p) : Calls Try.prog 26 #[.pointer (some a)] w fun e w' => e = .returned (.int .i64 (p : Int)) ∧ JB R V w0 a b a2 L X w' p := by
  obtain ⟨S, T, h1, h2, h3, h4⟩ := h.rv
  exact (HP.at_ w a b p S h1).mono fun _ _ g => ⟨g.1, h.still HP g.2.fr⟩
theorem JB.len (HP : FlowP R V) (h : JB R V w0 a b a2 L X w p) : Calls Try.prog 31 #[.pointer (some a2)] w fun e w' => e = .returned (.int .i64 (L.length : Int)) ∧ JB R V w0 a b a2 L X w' p := by
  obtain ⟨S, T, h1, h2, h3, h4⟩ := h.rv
  exact (HP.len w a2 L T h2).mono fun _ _ g => ⟨g.1, h.still HP g.2.fr⟩
end
end Go.Proofs.Ytnibbopdjeagoaa.fl
