/-
  Archives (mathematics): how the program comes to what the document's words ask.
-/
import Derived.Test.YtgimiggffpokpaaGreatDoorTaM
import Derived.Lib.SlTrimSet
import Derived.Lib.Atoi
import Derived.Lib.Bytealg
namespace Go.Proofs.YtgimiggffpokpaaGreatDoor.ta
set_option maxRecDepth 100000
open Go.Proofs.YtgimiggffpokpaaGreatDoor.pt (Tx okT cleanL targetL underT)
open Go.Proofs.YtgimiggffpokpaaGreatDoor.he (Bts Hd parseV emptyV parse_within)
open Go.Proofs.YtgimiggffpokpaaGreatDoor.vr (wholeV wholeB numL digB)
set_option maxRecDepth 100000

/-! ### digits -/
def digS : Bts := [48, 49, 50, 51, 52, 53, 54, 55, 56, 57]
theorem digS_has (b : UInt8) : digS.contains b = digB b := by
  have hb := b.toNat_lt
  have key : ∀ n, n < 256 → digS.contains (UInt8.ofNat n) = digB (UInt8.ofNat n) := by decide +kernel
  have h := key b.toNat hb
  rwa [UInt8.ofNat_toNat] at h
theorem dropWhile_nil {α : Type} (p : α → Bool) (l : List α) : l.dropWhile p = [] ↔ ∀ x ∈ l, p x = true := by
  induction l with
  | nil => simp
  | cons a r ih =>
    rw [List.dropWhile_cons]
    by_cases ha : p a = true
    · rw [if_pos ha, ih]; simp [ha]
    · rw [if_neg ha]; simp [ha]
theorem trim_digits (l : Bts) : (Lib.trimS l digS = [] ↔ l.all digB = true) := by
  have hp : (fun b : UInt8 => digS.contains b) = digB := funext digS_has
  unfold Lib.trimS Lib.trimLeftS Lib.trimRightS
  rw [hp, dropWhile_nil, List.all_eq_true]
  constructor
  · intro h
    have h1 : ∀ x ∈ l.reverse.dropWhile digB, digB x = true := fun x hx => h x (List.mem_reverse.2 hx)
    have h2 : l.reverse.dropWhile digB = [] := by
      cases hd : l.reverse.dropWhile digB with
      | nil => rfl
      | cons a r =>
        have h3 := List.head_dropWhile_not digB (l := l.reverse) (by rw [hd]; simp)
        have h4 := h1 a (by rw [hd]; simp)
        simp only [hd, List.head_cons] at h3
        rw [h4] at h3
        cases h3
    have h5 := (dropWhile_nil digB l.reverse).1 h2
    exact fun x hx => h5 x (List.mem_reverse.2 hx)
  · intro h x hx
    have : l.reverse.dropWhile digB = [] := (dropWhile_nil digB _).2 (fun y hy => h y (List.mem_reverse.1 hy))
    rw [this] at hx
    cases hx
theorem decFrom_num : ∀ (l : Bts) (acc : Nat), l.all digB = true → Lib.decFrom acc l = some (l.foldl (fun n b => n * 10 + (b.toNat - 48)) acc)
  | [], _, _ => rfl
  | b :: r, acc, h => by
    rw [List.all_cons, Bool.and_eq_true] at h
    have hd : Lib.digitVal b = some (b.toNat - 48) := by
      unfold Lib.digitVal
      have := h.1
      unfold digB at this
      rw [Bool.and_eq_true, decide_eq_true_eq, decide_eq_true_eq] at this
      rw [if_pos this]
    unfold Lib.decFrom
    rw [hd]
    exact decFrom_num r _ h.2
theorem atoi_num {l : Bts} (hne : l ≠ []) (h : l.all digB = true) : Lib.atoi l = some (numL l : Int) := by
  cases l with
  | nil => exact absurd rfl hne
  | cons b r =>
    have hb : digB b = true := by rw [List.all_cons, Bool.and_eq_true] at h; exact h.1
    have h45 : (b == 45) = false := by
      cases e : b == 45 with
      | false => rfl
      | true => rw [eq_of_beq e] at hb; exact absurd hb (by decide)
    have h43 : (b == 43) = false := by
      cases e : b == 43 with
      | false => rfl
      | true => rw [eq_of_beq e] at hb; exact absurd hb (by decide)
    unfold Lib.atoi
    dsimp only
    rw [h45, h43, if_neg (by decide), if_neg (by decide)]
    unfold Lib.decNat
    rw [if_neg (by simp), decFrom_num _ _ h]
    rfl
theorem num_lt : ∀ (l : Bts), l.all digB = true → numL l < 10 ^ l.length := fun l h => by
  have h1 := decFrom_num l 0 h
  have h2 := Lib.decFrom_lt l 0 _ h1
  rw [Nat.zero_add, Nat.one_mul] at h2
  exact h2
theorem whole_none {s : Bts} {d : Nat} (h : wholeV s d = none) : s = [] ∨ d < s.length ∨ (s.head? = some 48 ∧ 1 < s.length) ∨ ¬ s.all digB = true := by
  unfold wholeV at h
  by_cases hw : wholeB s d = true
  · rw [if_pos hw] at h; cases h
  · unfold wholeB at hw
    simp only [Bool.and_eq_true, Bool.or_eq_true, decide_eq_true_iff] at hw
    by_cases h1 : s = []
    · exact Or.inl h1
    by_cases h2 : s.length ≤ d
    · by_cases h3 : s.length ≤ 1 ∨ s.head? ≠ some 48
      · exact Or.inr (Or.inr (Or.inr fun e => hw ⟨⟨⟨h1, h2⟩, h3⟩, e⟩))
      · refine Or.inr (Or.inr (Or.inl ⟨?_, ?_⟩))
        · exact Decidable.byContradiction fun e => h3 (Or.inr e)
        · exact Decidable.byContradiction fun e => h3 (Or.inl (by omega))
    · exact Or.inr (Or.inl (by omega))
theorem whole_some {s : Bts} {d n : Nat} (h : wholeV s d = some n) : s ≠ [] ∧ s.length ≤ d ∧ (s.length ≤ 1 ∨ s.head? ≠ some 48) ∧ s.all digB = true ∧ n = numL s ∧ n < 10 ^ d := by
  unfold wholeV at h
  split at h
  case isFalse => cases h
  case isTrue hb =>
    cases h
    unfold wholeB at hb
    simp only [Bool.and_eq_true, Bool.or_eq_true, decide_eq_true_iff] at hb
    obtain ⟨⟨⟨h1, h2⟩, h3⟩, h4⟩ := hb
    exact ⟨h1, h2, h3, h4, rfl, Nat.lt_of_lt_of_le (num_lt s h4) (Nat.pow_le_pow_right (by omega) h2)⟩

/-! ### where a byte is -/
theorem index_while (c : UInt8) : ∀ l : Bts, (Lib.indexByte l c = -1 ∧ c ∉ l ∧ l.takeWhile (fun x => decide (x ≠ c)) = l) ∨ (∃ i : Nat, Lib.indexByte l c = i ∧ i < l.length ∧ l[i]? = some c ∧ c ∈ l ∧ l.takeWhile (fun x => decide (x ≠ c)) = l.take i)
  | [] => Or.inl ⟨rfl, by simp, rfl⟩
  | b :: l => by
    by_cases hb : b = c
    · refine Or.inr ⟨0, ?_, by simp, by simp [hb], by simp [hb], by simp [hb]⟩
      unfold Lib.indexByte
      rw [if_pos (by rw [hb]; exact beq_self_eq_true c)]
      rfl
    · have hi : Lib.indexByte (b :: l) c = if Lib.indexByte l c == -1 then -1 else Lib.indexByte l c + 1 := by
        conv => lhs; unfold Lib.indexByte
        rw [if_neg (by simpa using hb)]
      have ht : (b :: l).takeWhile (fun x => decide (x ≠ c)) = b :: l.takeWhile (fun x => decide (x ≠ c)) := by
        rw [List.takeWhile_cons, if_pos (by simpa using hb)]
      rcases index_while c l with ⟨h1, h2, h3⟩ | ⟨i, h1, h2, h3, h4, h5⟩
      · exact Or.inl ⟨by rw [hi, h1]; rfl, by simp [h2, Ne.symm hb], by rw [ht, h3]⟩
      · refine Or.inr ⟨i + 1, ?_, by simpa using h2, by simpa using h3, by simp [h4], by rw [ht, h5, List.take_succ_cons]⟩
        rw [hi, h1, if_neg (by simp)]
        omega

/-! ### records -/
/-- Where a record's text begins, and where the record ends. -/
def cutR (b : Bts) : Option (Nat × Nat) :=
  match wholeV (digR b) 6 with
  | none => none
  | some n => if n ≤ (digR b).length + 1 ∨ b.length < n ∨ b[n - 1]? ≠ some 10 ∨ (32 : UInt8) ∉ b.take 7 then none else some ((digR b).length + 1, n)
theorem digR_le (b : Bts) : (digR b).length ≤ 7 ∧ (digR b).length ≤ b.length := by
  unfold digR
  have h1 := (List.takeWhile_sublist (fun x => decide (x ≠ (32 : UInt8))) (l := b.take 7)).length_le
  rw [List.length_take] at h1
  omega
theorem blank_at {b : Bts} (h : (digR b).length ≤ 6) : b[(digR b).length]? = some 32 ↔ (32 : UInt8) ∈ b.take 7 := by
  have hd : digR b = (b.take 7).takeWhile (fun x => decide (x ≠ 32)) := rfl
  rcases index_while 32 (b.take 7) with ⟨h1, h2, h3⟩ | ⟨i, h1, h2, h3, h4, h5⟩
  · rw [← hd] at h3
    refine ⟨fun e => ?_, fun e => absurd e h2⟩
    have : (b.take 7)[(digR b).length]? = some 32 := by rw [List.getElem?_take, if_pos (by omega)]; exact e
    rw [h3] at this
    have := (List.getElem?_eq_some_iff.1 this).1
    omega
  · rw [← hd] at h5
    have hl : (digR b).length = i := by rw [h5, List.length_take]; omega
    rw [hl]
    refine ⟨fun _ => h4, fun _ => ?_⟩
    rw [List.getElem?_take] at h3
    split at h3
    · exact h3
    · cases h3
theorem recR_cut (b : Bts) : recR b = match cutR b with
    | none => none
    | some (f, n) => if (61 : UInt8) ∉ (b.take (n - 1)).drop f then none else some (n, keyR ((b.take (n - 1)).drop f), ((b.take (n - 1)).drop f).drop ((keyR ((b.take (n - 1)).drop f)).length + 1)) := by
  unfold recR cutR
  cases hw : wholeV (digR b) 6 with
  | none => rfl
  | some n =>
    obtain ⟨_, h6, _⟩ := whole_some hw
    have hbl := blank_at h6
    dsimp only
    by_cases h1 : n ≤ (digR b).length + 1 ∨ b.length < n ∨ b[n - 1]? ≠ some 10 ∨ (32 : UInt8) ∉ b.take 7
    · rw [if_pos h1, if_pos]
      rcases h1 with h1 | h1 | h1 | h1
      · exact Or.inr (Or.inr (Or.inl h1))
      · exact Or.inr (Or.inl h1)
      · exact Or.inr (Or.inr (Or.inr (Or.inl h1)))
      · exact Or.inr (Or.inr (Or.inr (Or.inr (Or.inl fun e => h1 (hbl.1 e)))))
    · rw [if_neg h1]
      dsimp only
      have h2 : ¬ n ≤ (digR b).length + 1 := fun e => h1 (Or.inl e)
      have h3 : ¬ b.length < n := fun e => h1 (Or.inr (Or.inl e))
      have h4 : b[n - 1]? = some 10 := Decidable.byContradiction fun e => h1 (Or.inr (Or.inr (Or.inl e)))
      have h5 : (32 : UInt8) ∈ b.take 7 := Decidable.byContradiction fun e => h1 (Or.inr (Or.inr (Or.inr e)))
      by_cases h6 : (61 : UInt8) ∉ (b.take (n - 1)).drop ((digR b).length + 1)
      · rw [if_pos h6, if_pos (Or.inr (Or.inr (Or.inr (Or.inr (Or.inr h6)))))]
      · rw [if_neg h6, if_neg]
        rintro (e | e | e | e | e | e)
        · omega
        · exact h3 e
        · exact h2 e
        · exact e h4
        · exact e (hbl.2 h5)
        · exact h6 e
theorem cutR_bound {b : Bts} {f n : Nat} (h : cutR b = some (f, n)) : f < n ∧ n ≤ b.length ∧ 2 ≤ n := by
  unfold cutR at h
  split at h
  · cases h
  · split at h
    · cases h
    · rename_i hc
      cases h
      have h2 : ¬ _ ≤ (digR b).length + 1 := fun e => hc (Or.inl e)
      have h3 : ¬ b.length < _ := fun e => hc (Or.inr (Or.inl e))
      omega
theorem recR_bound {b : Bts} {n : Nat} {k v : Bts} (h : recR b = some (n, k, v)) : 2 ≤ n ∧ n ≤ b.length ∧ k.length + v.length < n := by
  rw [recR_cut] at h
  split at h
  · cases h
  · rename_i f n' hc
    split at h
    · cases h
    · rename_i he
      cases h
      obtain ⟨h1, h2, h3⟩ := cutR_bound hc
      have hk : (keyR ((b.take (n - 1)).drop f)).length ≤ ((b.take (n - 1)).drop f).length := (List.takeWhile_sublist _).length_le
      have hl : ((b.take (n - 1)).drop f).length = n - 1 - f := by rw [List.length_drop, List.length_take]; omega
      refine ⟨h3, h2, ?_⟩
      rw [List.length_drop]
      omega
theorem recsF_fuel : ∀ (f g : Nat) (b : Bts), b.length ≤ f → b.length ≤ g → recsF f b = recsF g b
  | 0, g, b, hf, _ => by
    obtain rfl := List.eq_nil_of_length_eq_zero (Nat.le_zero.1 hf)
    cases g <;> simp [recsF]
  | f + 1, 0, b, _, hg => by
    obtain rfl := List.eq_nil_of_length_eq_zero (Nat.le_zero.1 hg)
    simp [recsF]
  | f + 1, g + 1, b, hf, hg => by
    unfold recsF
    by_cases hb : b = []
    · rw [if_pos hb, if_pos hb]
    · rw [if_neg hb, if_neg hb]
      cases hr : recR b with
      | none => rfl
      | some p =>
        obtain ⟨n, k, v⟩ := p
        obtain ⟨h1, h2, _⟩ := recR_bound hr
        dsimp only
        rw [recsF_fuel f g (b.drop n) (by rw [List.length_drop]; omega) (by rw [List.length_drop]; omega)]
theorem recs_nil : recsV [] = some [] := rfl
theorem recs_none {b : Bts} (hb : b ≠ []) (h : recR b = none) : recsV b = none := by
  unfold recsV
  cases hl : b.length with
  | zero => exact absurd (List.eq_nil_of_length_eq_zero hl) hb
  | succ f => unfold recsF; rw [if_neg hb, h]
theorem recs_some {b : Bts} {n : Nat} {k v : Bts} (h : recR b = some (n, k, v)) : recsV b = (recsV (b.drop n)).map fun r => k :: v :: r := by
  obtain ⟨h1, h2, _⟩ := recR_bound h
  have hb : b ≠ [] := by rintro rfl; simp at h2; omega
  conv => lhs; unfold recsV
  cases hl : b.length with
  | zero => exact absurd (List.eq_nil_of_length_eq_zero hl) hb
  | succ f =>
    unfold recsF
    rw [if_neg hb, h]
    dsimp only
    unfold recsV
    rw [recsF_fuel f (b.drop n).length (b.drop n) (by rw [List.length_drop]; omega) (Nat.le_refl _)]
/-- What Records has told of the first i bytes. -/
def RecI (b : Bts) (i : Nat) (L : List Tx) : Prop := recsV b = (recsV (b.drop i)).map fun r => L ++ r
theorem RecI.zero (b : Bts) : RecI b 0 [] := by
  unfold RecI
  rw [List.drop_zero]
  cases recsV b <;> rfl
theorem RecI.bad {b : Bts} {i : Nat} {L : List Tx} (h : RecI b i L) (hi : i < b.length) (hr : recR (b.drop i) = none) : recsV b = none := by
  unfold RecI at h
  rw [h, recs_none (fun e => by have := congrArg List.length e; rw [List.length_drop] at this; simp at this; omega) hr]
  rfl
theorem RecI.next {b : Bts} {i n : Nat} {L : List Tx} {k v : Bts} (h : RecI b i L) (hr : recR (b.drop i) = some (n, k, v)) : RecI b (i + n) (L ++ [k, v]) := by
  unfold RecI at h ⊢
  rw [h, recs_some hr, List.drop_drop]
  cases recsV (b.drop (i + n)) with
  | none => rfl
  | some r => simp
theorem RecI.done {b : Bts} {L : List Tx} (h : RecI b b.length L) : recsV b = some L := by
  unfold RecI at h
  rw [h, List.drop_of_length_le (Nat.le_refl _), recs_nil]
  simp
/-- Of words: as many keys as values. -/
def even2 : List Tx → Bool
  | [] => true
  | [_] => false
  | _ :: _ :: r => even2 r
theorem recsF_even : ∀ (f : Nat) (b : Bts) (l : List Tx), recsF f b = some l → even2 l = true ∧ l.length ≤ b.length
  | 0, b, l, h => by
    unfold recsF at h
    split at h
    · cases h; exact ⟨rfl, Nat.zero_le _⟩
    · cases h
  | f + 1, b, l, h => by
    unfold recsF at h
    split at h
    · cases h; exact ⟨rfl, Nat.zero_le _⟩
    · split at h
      · cases h
      · rename_i n k v hr
        cases hd : recsF f (b.drop n) with
        | none => rw [hd] at h; cases h
        | some r =>
          rw [hd] at h
          cases h
          obtain ⟨h1, h2⟩ := recsF_even f _ _ hd
          obtain ⟨h3, h4, _⟩ := recR_bound hr
          rw [List.length_drop] at h2
          exact ⟨h1, by simp only [List.length_cons]; omega⟩
theorem recs_even {b : Bts} {l : List Tx} (h : recsV b = some l) : even2 l = true ∧ l.length ≤ b.length := recsF_even _ _ _ h

theorem recsF_len : ∀ (f : Nat) (b : Bts) (l : List Tx), recsF f b = some l → ∀ x ∈ l, x.length ≤ b.length
  | 0, b, l, h, x, hx => by
    unfold recsF at h
    split at h
    · cases h; cases hx
    · cases h
  | f + 1, b, l, h, x, hx => by
    unfold recsF at h
    split at h
    · cases h; cases hx
    · split at h
      · cases h
      · rename_i n k v hr
        cases hd : recsF f (b.drop n) with
        | none => rw [hd] at h; cases h
        | some r =>
          rw [hd] at h
          cases h
          obtain ⟨h3, h4, h5⟩ := recR_bound hr
          simp only [List.mem_cons] at hx
          rcases hx with rfl | rfl | hx
          · omega
          · omega
          · have := recsF_len f _ _ hd x hx
            rw [List.length_drop] at this
            omega
theorem recs_len {b : Bts} {l : List Tx} (h : recsV b = some l) : ∀ x ∈ l, x.length ≤ b.length := recsF_len _ _ _ h

/-! ### what words tell -/
def setN (x : Nx) (h : Hd) : Hd := { h with name := x.path.getD h.name, link := x.link.getD h.link, size := (x.size.map Int.ofNat).getD h.size }
theorem with_set {x : Nx} {h : Hd} (hk : ¬ (h.kind = 120 ∨ h.kind = 103)) : withN x h = setN x h := by unfold withN setN; rw [if_neg hk]
theorem with_same {x : Nx} {h : Hd} (hk : h.kind = 120 ∨ h.kind = 103) : withN x h = h := by unfold withN; rw [if_pos hk]
/-- What one key and value make of a header. -/
def holdS (h : Hd) (k v : Tx) : Hd := if k = kPath then { h with name := v } else if k = kLink then { h with link := v } else if k = kSize then { h with size := ((wholeV v 9).getD 0 : Nat) } else h
def holdF : Hd → List Tx → Hd
  | h, k :: v :: r => holdF (holdS h k v) r
  | h, _ => h
theorem hold_set {x y : Nx} {h : Hd} {k v : Tx} (hm : moreS x k v = some y) : holdS (setN x h) k v = setN y h := by
  unfold moreS at hm
  unfold holdS
  split at hm
  · rename_i h1; cases hm; rw [if_pos h1]; rfl
  rename_i h1
  rw [if_neg h1]
  split at hm
  · rename_i h2; cases hm; rw [if_pos h2]; rfl
  rename_i h2
  rw [if_neg h2]
  split at hm
  · rename_i h3
    rw [if_pos h3]
    split at hm
    · cases hm
    · rename_i n hw
      split at hm
      · cases hm
      · cases hm
        rw [hw]
        rfl
  · rename_i h3
    rw [if_neg h3]
    cases hm
    rfl
theorem hold_more : ∀ (l : List Tx) (x y : Nx) (h : Hd), moreF x l = some y → holdF (setN x h) l = setN y h
  | [], x, y, h, hm => by unfold moreF at hm; cases hm; rfl
  | [k], x, y, h, hm => by unfold moreF at hm; cases hm; rfl
  | k :: v :: r, x, y, h, hm => by
    unfold moreF at hm
    split at hm
    · cases hm
    · rename_i z hz
      unfold holdF
      rw [hold_set hz]
      exact hold_more r z y h hm
theorem set_nx0 (h : Hd) : setN nx0 h = h := rfl
theorem hold_words {l : List Tx} {x : Nx} (h : Hd) (hm : moreV l = some x) : holdF h l = setN x h := by
  have := hold_more l { nx0 with is := true } x h hm
  rwa [show setN { nx0 with is := true } h = h from rfl] at this
/-- Is this pair no size? -/
def badS (k v : Tx) : Bool := decide (k = kSize) && decide (∀ n, wholeV v 9 = some n → 262144 < n)
def sizeB (v : Tx) : Bool := match wholeV v 9 with
  | none => false
  | some n => decide (n ≤ 262144)
theorem more_bad {x : Nx} {k v : Tx} : moreS x k v = none ↔ k = kSize ∧ sizeB v = false := by
  unfold moreS sizeB
  by_cases h3 : k = kSize
  · rw [if_neg (by rw [h3]; decide), if_neg (by rw [h3]; decide), if_pos h3]
    cases wholeV v 9 with
    | none => simp [h3]
    | some n =>
      dsimp only
      by_cases hn : 262144 < n
      · rw [if_pos hn]; simp [h3]; omega
      · rw [if_neg hn]; simp [h3]; omega
  · by_cases h1 : k = kPath
    · rw [if_pos h1]; simp [h3]
    · rw [if_neg h1]
      by_cases h2 : k = kLink
      · rw [if_pos h2]; simp [h3]
      · rw [if_neg h2, if_neg h3]; simp [h3]
/-- Words of which a size is none: the first i told. -/
theorem moreF_drop : ∀ (l : List Tx) (x : Nx), (moreF x l = none ↔ ∃ i k v, l[i]? = some k ∧ l[i + 1]? = some v ∧ i % 2 = 0 ∧ k = kSize ∧ sizeB v = false)
  | [], x => by simp [moreF]
  | [a], x => by
    unfold moreF
    simp
  | a :: b :: r, x => by
    unfold moreF
    cases hm : moreS x a b with
    | none =>
      obtain ⟨h1, h2⟩ := more_bad.1 hm
      simp only [true_iff]
      exact ⟨0, a, b, rfl, rfl, rfl, h1, h2⟩
    | some y =>
      dsimp only
      rw [moreF_drop r y]
      constructor
      · rintro ⟨i, k, v, h1, h2, h3, h4, h5⟩
        exact ⟨i + 2, k, v, by simpa using h1, by simpa using h2, by omega, h4, h5⟩
      · rintro ⟨i, k, v, h1, h2, h3, h4, h5⟩
        match i with
        | 0 =>
          simp only [List.getElem?_cons_zero, Option.some.injEq, Nat.zero_add, List.getElem?_cons_succ] at h1 h2
          subst h1
          subst h2
          rw [more_bad.2 ⟨h4, h5⟩] at hm
          cases hm
        | 1 => omega
        | i + 2 => exact ⟨i, k, v, by simpa using h1, by simpa using h2, by omega, h4, h5⟩
theorem even_len : ∀ {l : List Tx}, even2 l = true → l.length % 2 = 0
  | [], _ => rfl
  | [_], h => by cases h
  | _ :: _ :: r, h => by
    have := even_len (l := r) h
    simp only [List.length_cons]
    omega
theorem hold_drop (h : Hd) (l : List Tx) {k v : Tx} {i : Nat} (hk : l[i]? = some k) (hv : l[i + 1]? = some v) : holdF h (l.drop i) = holdF (holdS h k v) (l.drop (i + 2)) := by
  have h1 : i < l.length := (List.getElem?_eq_some_iff.1 hk).1
  have h2 : i + 1 < l.length := (List.getElem?_eq_some_iff.1 hv).1
  rw [List.drop_eq_getElem_cons h1, List.drop_eq_getElem_cons h2, (List.getElem?_eq_some_iff.1 hk).2, (List.getElem?_eq_some_iff.1 hv).2]
  rfl

/-! ### entries beside each other -/
/-- May an entry stand beside those ahead of it? -/
def mayV (k : UInt8) (p : Tx) (out : List En) : Int := if out.any (belowB p) = true ∨ out.any (aboveB k p) = true then 140 else if out.any (fun o => decide (o.path = p)) = true then 6 else 0
theorem entP_may (h : Hd) (p : Tx) (data : Bts) (out : List En) : entP h p data out = if mayV h.kind p out = 0 then entK h p data else (none, mayV h.kind p out) := by
  unfold entP mayV
  by_cases h1 : out.any (belowB p) = true
  · rw [if_pos h1, if_pos (Or.inl h1), if_neg (by decide)]
  · rw [if_neg h1]
    by_cases h2 : out.any (aboveB h.kind p) = true
    · rw [if_pos h2, if_pos (Or.inr h2), if_neg (by decide)]
    · rw [if_neg h2, if_neg (show ¬ (_ ∨ _) from fun e => e.elim h1 h2)]
      by_cases h3 : out.any (fun o => decide (o.path = p)) = true
      · rw [if_pos h3, if_pos h3, if_neg (by decide)]
      · rw [if_neg h3, if_neg h3, if_pos rfl]
/-- The first j have been looked at: none keeps out, and whether one has the path. -/
structure MayI (k : UInt8) (p : Tx) (out : List En) (j : Nat) (same : Bool) : Prop where
  below : (out.take j).any (belowB p) = false
  above : (out.take j).any (aboveB k p) = false
  same : (out.take j).any (fun o => decide (o.path = p)) = same
theorem MayI.zero (k : UInt8) (p : Tx) (out : List En) : MayI k p out 0 false := ⟨rfl, rfl, rfl⟩
theorem take_snoc {out : List En} {j : Nat} {o : En} (h : out[j]? = some o) : out.take (j + 1) = out.take j ++ [o] := by
  rw [List.take_add_one, h]
  rfl
theorem MayI.eq {k : UInt8} {p : Tx} {out : List En} {j : Nat} {s : Bool} {o : En} (h : MayI k p out j s) (ho : out[j]? = some o) (he : o.path = p) : MayI k p out (j + 1) true := by
  refine ⟨?_, ?_, ?_⟩
  · rw [take_snoc ho, List.any_append, h.below]; simp [belowB, he]
  · rw [take_snoc ho, List.any_append, h.above]; simp [aboveB, he]
  · rw [take_snoc ho, List.any_append]; simp [he]
theorem MayI.on {k : UInt8} {p : Tx} {out : List En} {j : Nat} {s : Bool} {o : En} (h : MayI k p out j s) (ho : out[j]? = some o) (he : o.path ≠ p) (h1 : o.kind ≠ 2 → underT p o.path = false) (h2 : k ≠ 53 → underT o.path p = false) : MayI k p out (j + 1) s := by
  refine ⟨?_, ?_, ?_⟩
  · rw [take_snoc ho, List.any_append, h.below]
    by_cases hk : o.kind = 2
    · simp [belowB, hk]
    · simp [belowB, h1 hk]
  · rw [take_snoc ho, List.any_append, h.above]
    by_cases hk : k = 53
    · simp [aboveB, hk]
    · simp [aboveB, h2 hk]
  · rw [take_snoc ho, List.any_append, h.same]; simp [he]
theorem may_out {k : UInt8} {p : Tx} {out : List En} {o : En} {j : Nat} (ho : out[j]? = some o) (he : o.path ≠ p) (h : (o.kind ≠ 2 ∧ underT p o.path = true) ∨ (k ≠ 53 ∧ underT o.path p = true)) : mayV k p out = 140 := by
  unfold mayV
  rw [if_pos]
  have hm := List.mem_of_getElem? ho
  rcases h with ⟨h1, h2⟩ | ⟨h1, h2⟩
  · left
    rw [List.any_eq_true]
    refine ⟨o, hm, ?_⟩
    unfold belowB
    simp [h1, h2, Ne.symm he]
  · right
    rw [List.any_eq_true]
    refine ⟨o, hm, ?_⟩
    unfold aboveB
    simp [h1, h2, Ne.symm he]
theorem MayI.done {k : UInt8} {p : Tx} {out : List En} {s : Bool} (h : MayI k p out out.length s) : mayV k p out = if s = true then 6 else 0 := by
  have h1 := h.below
  have h2 := h.above
  have h3 := h.same
  rw [List.take_length] at h1 h2 h3
  unfold mayV
  rw [h1, h2, h3]
  simp
end Go.Proofs.YtgimiggffpokpaaGreatDoor.ta
