/-
  Texts that belong together, joined: FeM FeA FeB.
-/
import Derived.Test.YtcdhakfmljjaoaaGreatDoorJD
import Derived.Test.YtcdhakfmljjaoaaGreatDoorCdZ

/-
  What the program reads, as readings (mathematics): numbers, bytes, symbols; thirty-two codes of five bits do as thirty.
-/

namespace Go.Proofs.YtcdhakfmljjaoaaGreatDoor.ft
set_option maxRecDepth 100000
open Go.Proofs.YtcdhakfmljjaoaaGreatDoor.fl Go.Proofs.YtcdhakfmljjaoaaGreatDoor.cd

/-! ### what the reader answers -/
theorem tk_no {n : Nat} (hn : n ≤ 24) {B : List Int} {p : Nat} (h : B.length < p + n) : tk n B p = .error 7 ∧ takeV B p n = (0, 7) ∧ takeA B p n = p := by
  unfold tk takeV takeA
  rw [if_pos h, if_neg (by omega), if_pos (by omega), if_neg (by omega), if_pos (by omega)]
  exact ⟨rfl, rfl, rfl⟩
theorem tk_yes {n : Nat} (hn : n ≤ 24) {B : List Int} {p : Nat} (h : ¬ B.length < p + n) : ∃ x : Int, tk n B p = .ok (x, p + n) ∧ takeV B p n = (x, 0) ∧ takeA B p n = p + n ∧ x = numI ((B.drop p).take n) := by
  refine ⟨numI ((B.drop p).take n), ?_, ?_, ?_, rfl⟩
  · unfold tk
    rw [if_neg h]
  · unfold takeV
    rw [if_neg (by omega), if_neg (by omega), Int.toNat_natCast]
  · unfold takeA
    rw [if_neg (by omega), if_neg (by omega), Int.toNat_natCast]
theorem num_part {B : List Int} (hB : AllBit B) (p n : Nat) : 0 ≤ numI ((B.drop p).take n) ∧ numI ((B.drop p).take n) < 2 ^ n := by
  have h1 : AllBit ((B.drop p).take n) := fun x hx => hB x (List.mem_of_mem_drop (List.mem_of_mem_take hx))
  have h2 := numI_in _ h1
  have h3 : (2 : Int) ^ ((B.drop p).take n).length ≤ 2 ^ n := by exact_mod_cast Nat.pow_le_pow_right (n := 2) (by omega) (by rw [List.length_take]; omega)
  omega
/-- A number that is read: an error, or the number. -/
theorem tk_cases {n : Nat} (hn : n ≤ 24) {B : List Int} (hB : AllBit B) (p : Nat) : (tk n B p = .error 7 ∧ takeV B p n = (0, 7) ∧ takeA B p n = p) ∨ ∃ x : Nat, tk n B p = .ok ((x : Int), p + n) ∧ takeV B p n = ((x : Int), 0) ∧ takeA B p n = p + n ∧ x < 2 ^ n := by
  by_cases h : B.length < p + n
  · exact Or.inl (tk_no hn h)
  · obtain ⟨x, h1, h2, h3, h4⟩ := tk_yes hn h
    have h5 := num_part hB p n
    rw [← h4] at h5
    refine Or.inr ⟨x.toNat, ?_, ?_, h3, ?_⟩
    · rw [h1]; congr 2; omega
    · rw [h2]; congr 1; omega
    · have : ((2 ^ n : Nat) : Int) = 2 ^ n := Int.natCast_pow 2 n
      omega
theorem al_is (B : List Int) (p : Nat) : al B p = .ok ((), alignA p) := by
  unfold al up8 alignA
  rw [Nat.mul_comm]
theorem alignA8 (p : Nat) : alignA p % 8 = 0 := by unfold alignA; omega
theorem by8_cases (n : Nat) (b : By) {p : Nat} (h8 : p % 8 = 0) (hp : p ≤ 8 * b.length) : (by8 n (bitsOf b) p = .error 7 ∧ bytesV (bitsOf b) p n = ([], 7)) ∨ ∃ l : By, by8 n (bitsOf b) p = .ok (l, p + 8 * n) ∧ bytesV (bitsOf b) p n = (l, 0) ∧ bytesA (bitsOf b) p n = p + 8 * n ∧ l.length = n := by
  have hl := bitsOf_length b
  by_cases h : (bitsOf b).length < p + 8 * n
  · left
    unfold by8 bytesV
    rw [if_pos h, if_neg (by omega), if_pos (by omega)]
    exact ⟨rfl, rfl⟩
  · right
    refine ⟨packI (((bitsOf b).drop p).take (8 * n)), ?_, ?_, ?_, ?_⟩
    · unfold by8
      rw [if_neg h]
    · unfold bytesV
      rw [if_neg (by omega), if_neg (by omega), Int.toNat_natCast]
    · unfold bytesA
      rw [if_neg (by omega), if_neg (by omega), Int.toNat_natCast]
    · rw [packI_length, List.length_take, List.length_drop]
      omega
theorem sy_cases (l B : List Int) (p : Nat) : (∃ e : Int, e ≠ 0 ∧ sy l B p = .error e ∧ (rdC l B p).2.1 = e) ∨ ∃ s : Nat, sy l B p = .ok (s, (rdC l B p).2.2) ∧ (rdC l B p).1 = s ∧ (rdC l B p).2.1 = 0 ∧ p < (rdC l B p).2.2 ∧ s ≤ l.length := by
  by_cases h : (rdC l B p).2.1 = 0
  · right
    refine ⟨(rdC l B p).1, ?_, rfl, h, ?_, (rdC_on l B p).2.2.2⟩
    · unfold sy
      rw [if_pos h]
    · have := (rdC_on l B p).2.1 h
      omega
  · left
    refine ⟨_, h, ?_, rfl⟩
    unfold sy
    rw [if_neg h]

/-! ### a symbol that is read has a code -/
theorem rd_in : ∀ (W : List (List Int)) (B : List Int) (m : Nat) (got : List Int) (p : Nat), (rdW W B m got p).2.1 = 0 → (rdW W B m got p).1 < W.length
  | W, B, 0, got, p, h => by cases h
  | W, B, m + 1, got, p, h => by
    rw [rdW] at h ⊢
    cases hx : B[p]? with
    | none => rw [hx] at h; cases h
    | some x =>
      rw [hx] at h
      cases hf : findW W (got ++ [x]) with
      | some i =>
        simp only [hf]
        exact (List.findIdx?_eq_some_iff_getElem.1 hf).1
      | none =>
        simp only [hf] at h ⊢
        exact rd_in W B m _ _ h
theorem sy_lt {l B : List Int} {p s q : Nat} (h : sy l B p = .ok (s, q)) : s < l.length := by
  obtain ⟨h1, h2, _⟩ := sy_ok h
  have := rd_in _ _ _ _ _ h1
  rw [wordsL_length] at this
  rw [h2]
  exact this

/-! ### thirty-two codes of five bits -/
abbrev five2 : List Int := List.replicate 32 5
def allG : Nat → List (List Int)
  | 0 => [[]]
  | n + 1 => (allG n).flatMap fun g => [g ++ [0], g ++ [1]]
theorem allG_mem : ∀ (n : Nat) (g : List Int), g.length = n → AllBit g → g ∈ allG n
  | 0, g, h, _ => by rw [List.eq_nil_of_length_eq_zero h]; exact List.mem_singleton.2 rfl
  | n + 1, g, h, hb => by
    have hne : g ≠ [] := fun e => by rw [e] at h; cases h
    have e := List.dropLast_concat_getLast hne
    have hl : g.dropLast.length = n := by rw [List.length_dropLast, h]; rfl
    have h1 := allG_mem n g.dropLast hl (fun x hx => hb x (List.dropLast_subset _ hx))
    have h2 := hb _ (List.getLast_mem hne)
    refine List.mem_flatMap.2 ⟨g.dropLast, h1, ?_⟩
    rw [← e]
    rcases (show g.getLast hne = 0 ∨ g.getLast hne = 1 by omega) with h3 | h3
    · rw [h3]; simp
    · rw [h3]; simp
theorem five_find : ∀ k, k < 6 → ∀ g ∈ allG k, findW (wordsL five2) g = findW (wordsL five) g ∨ (k = 5 ∧ findW (wordsL five) g = none ∧ ∃ i, 29 < i ∧ findW (wordsL five2) g = some i) := by
  have h : ∀ k, k < 6 → ∀ g ∈ allG k, (findW (wordsL five2) g = findW (wordsL five) g ∨ (k = 5 ∧ findW (wordsL five) g = none ∧ 29 < (findW (wordsL five2) g).getD 0)) := by decide +kernel
  intro k hk g hg
  rcases h k hk g hg with h1 | ⟨h1, h2, h3⟩
  · exact Or.inl h1
  · cases hf : findW (wordsL five2) g with
    | none => rw [hf] at h3; simp at h3
    | some i => rw [hf] at h3; exact Or.inr ⟨h1, h2, i, h3, rfl⟩
theorem five_rd {B : List Int} (hB : AllBit B) : ∀ (m : Nat) (got : List Int) (p : Nat), got.length + m = 5 → AllBit got → rdW (wordsL five2) B m got p = rdW (wordsL five) B m got p ∨ ((rdW (wordsL five) B m got p).2.1 = 110 ∧ (rdW (wordsL five2) B m got p).2.1 = 0 ∧ 29 < (rdW (wordsL five2) B m got p).1)
  | 0, _, _, _, _ => Or.inl rfl
  | m + 1, got, p, hl, hg => by
    rw [rdW, rdW]
    cases hx : B[p]? with
    | none => exact Or.inl rfl
    | some x =>
      have hb := hB x (List.mem_of_getElem? hx)
      have hg2 : AllBit (got ++ [x]) := hg.append (fun y hy => by rw [List.mem_singleton.1 hy]; exact hb)
      have hl2 : (got ++ [x]).length = got.length + 1 := by simp
      rcases five_find (got.length + 1) (by omega) _ (allG_mem _ _ hl2 hg2) with h1 | ⟨h1, h2, i, h3, h4⟩
      · simp only [h1]
        cases findW (wordsL five) (got ++ [x]) with
        | some i => exact Or.inl rfl
        | none => exact five_rd hB m (got ++ [x]) (p + 1) (by rw [hl2]; omega) hg2
      · obtain rfl : m = 0 := by omega
        simp only [h2, h4]
        exact Or.inr ⟨by trivial, by trivial, h3⟩
theorem five_sy {B : List Int} (hB : AllBit B) (p : Nat) : sy five2 B p = sy five B p ∨ (sy five B p = .error 110 ∧ ∃ s q, sy five2 B p = .ok (s, q) ∧ 29 < s) := by
  have e1 : mostW (wordsL five2) = 5 := by decide +kernel
  have e2 : mostW (wordsL five) = 5 := by decide +kernel
  have h := five_rd hB 5 [] p rfl (fun x hx => by cases hx)
  unfold sy rdC
  rw [e1, e2]
  rcases h with h | ⟨h1, h2, h3⟩
  · rw [h]; exact Or.inl rfl
  · right
    rw [if_neg (by rw [h1]; decide), if_pos h2, h1]
    exact ⟨rfl, _, _, rfl, h3⟩
theorem five_copy {B : List Int} (hB : AllBit B) (most : Nat) (out : By) (k p : Nat) : copyM most five out k B p = copyM most five2 out k B p := by
  unfold copyM
  by_cases hk : 28 < k
  · rw [if_pos hk, if_pos hk]
  · rw [if_neg hk, if_neg hk]
    unfold bnd
    cases tk (spanX k) B p with
    | error e => rfl
    | ok v =>
      obtain ⟨x, q⟩ := v
      simp only
      rcases five_sy hB q with h | ⟨h1, s, r, h2, h3⟩
      · rw [h]
      · rw [h1, h2]
        simp only
        rw [if_pos h3]
        rfl
theorem sym_congr {B : List Int} {most : Nat} {d1 d2 : List Int} (hc : ∀ (out : By) (k p : Nat), copyM most d1 out k B p = copyM most d2 out k B p) (l : List Int) (out : By) (p : Nat) : symS most l d1 out B p = symS most l d2 out B p := by
  unfold symS
  unfold bnd
  cases sy l B p with
  | error e => rfl
  | ok v =>
    obtain ⟨s, q⟩ := v
    simp only
    by_cases h : s = 256
    · rw [if_pos h, if_pos h]
    · rw [if_neg h, if_neg h]
      by_cases h2 : 256 < s
      · rw [if_pos h2, if_pos h2, hc]
      · rw [if_neg h2, if_neg h2]
theorem syms_congr {B : List Int} {most : Nat} {d1 d2 l : List Int} (hc : ∀ (out : By) (p : Nat), symS most l d1 out B p = symS most l d2 out B p) (out : By) (p : Nat) : symsM most l d1 out B p = symsM most l d2 out B p := by
  have h : ∀ (f : Nat) (out : By) (p : Nat), loopF (symS most l d1) f out B p = loopF (symS most l d2) f out B p := by
    intro f
    induction f with
    | zero => exact fun _ _ => rfl
    | succ f ih =>
      intro out p
      rw [loopF, loopF]
      unfold bnd
      rw [hc]
      cases symS most l d2 out B p with
      | error e => rfl
      | ok v =>
        obtain ⟨r, q⟩ := v
        cases r with
        | inl s => exact ih s q
        | inr c => rfl
  exact h _ _ _
theorem five_syms {B : List Int} (hB : AllBit B) (most : Nat) (l : List Int) (out : By) (p : Nat) : symsM most l five out B p = symsM most l five2 out B p :=
  syms_congr (sym_congr (five_copy hB most) l) out p
theorem five2_ok : okB five2 = true := by decide +kernel
end Go.Proofs.YtcdhakfmljjaoaaGreatDoor.ft

/-
  The program's stream that is being read: its tables, its cells, what its reader does.
-/

namespace Go.Proofs.YtcdhakfmljjaoaaGreatDoor.ft
set_option maxRecDepth 100000
open Go.RowKit Go.Maps Go.Proofs.YtcdhakfmljjaoaaGreatDoor.fl Go.Proofs.YtcdhakfmljjaoaaGreatDoor.cd
set_option maxRecDepth 100000

/-! ### the tables -/
def repB (k : Nat) : Nat := if k = 2 then 11 else 3
def repX (k : Nat) : Nat := if k = 0 then 2 else if k = 1 then 3 else 7
def sizL : List Int := [257, 5, 1, 5, 4, 4]
structure Tabs (w : World) : Prop where
  len : ∀ k, k < 29 → w.cell? ⟨3, k * 2, none⟩ = some (.int .i64 (spanB k : Nat)) ∧ w.cell? ⟨3, k * 2 + 1, none⟩ = some (.int .i64 (spanX k : Nat))
  far : ∀ k, k < 30 → w.cell? ⟨7, k * 2, none⟩ = some (.int .i64 (farB k : Nat)) ∧ w.cell? ⟨7, k * 2 + 1, none⟩ = some (.int .i64 (farX k : Nat))
  rep : ∀ k, k < 3 → w.cell? ⟨6, k * 2, none⟩ = some (.int .i64 (repB k : Nat)) ∧ w.cell? ⟨6, k * 2 + 1, none⟩ = some (.int .i64 (repX k : Nat))
  siz : ∀ k x, sizL[k]? = some x → w.cell? ⟨4, k, none⟩ = some (.int .i64 x)
  ord : ∀ k x, orderL[k]? = some x → w.cell? ⟨5, k, none⟩ = some (.int .i64 (x : Nat))
theorem cell_keep {w w' : World} {b j : Nat} {v : Value} (h : w.cell? ⟨b, j, none⟩ = some v) (hF : Fr (fun _ => False) w w') : w'.cell? ⟨b, j, none⟩ = some v := by
  have hlt : b < w.heap.size := by
    apply Decidable.byContradiction
    intro hn
    rw [World.cell?, Array.getElem?_eq_none (show w.heap.size ≤ b by omega)] at h
    cases h
  rw [← h]
  exact World.cell?_of_block (hF.block b hlt id)
theorem Tabs.keep {w w' : World} (h : Tabs w) (hF : Fr (fun _ => False) w w') : Tabs w' :=
  ⟨fun k hk => ⟨cell_keep (h.len k hk).1 hF, cell_keep (h.len k hk).2 hF⟩, fun k hk => ⟨cell_keep (h.far k hk).1 hF, cell_keep (h.far k hk).2 hF⟩, fun k hk => ⟨cell_keep (h.rep k hk).1 hF, cell_keep (h.rep k hk).2 hF⟩, fun k x hk => cell_keep (h.siz k x hk) hF, fun k x hk => cell_keep (h.ord k x hk) hF⟩
theorem span_le {k : Nat} (h : k < 29) : spanX k ≤ 5 ∧ spanB k ≤ 258 ∧ 3 ≤ spanB k := by
  have : ∀ k, k < 29 → spanX k ≤ 5 ∧ spanB k ≤ 258 ∧ 3 ≤ spanB k := by decide +kernel
  exact this k h
theorem far_le {k : Nat} (h : k < 30) : farX k ≤ 13 ∧ farB k ≤ 24577 ∧ 1 ≤ farB k := by
  have : ∀ k, k < 30 → farX k ≤ 13 ∧ farB k ≤ 24577 ∧ 1 ≤ farB k := by decide +kernel
  exact this k h

/-! ### a code, kept -/
theorem pc_kept {w w' : World} {a : Addr} {l : List Int} {S : Nat → Prop} (h : PC w a l S) (hk : ∀ i, S i → w'.heap[i]? = w.heap[i]?) (hs : w.heap.size ≤ w'.heap.size) : PC w' a l S := by
  obtain ⟨g, gw, gs, sy, e, h⟩ := h
  exact ⟨g, gw, gs, sy, e, ⟨(hk g h.own.1).trans h.blk, (hk gw h.own.2.1).trans h.wds, (hk gs h.own.2.2).trans h.sym, h.srt, h.ok, h.own, fun i hi => Nat.lt_of_lt_of_le (h.low i hi) hs⟩⟩

/-! ### the stream -/
structure En where
  w0 : World
  g : Nat
  rd : Addr
  cs : Addr
  cd : Addr
  most : Nat
  b : By
  F : Nat → Prop
def Kp (X : Nat → Prop) (w w' : World) : Prop := ∀ i, X i → w'.heap[i]? = w.heap[i]?
theorem Kp.trans {X : Nat → Prop} {w w' w2 : World} (h : Kp X w w') (k : Kp X w' w2) : Kp X w w2 := fun i hi => (k i hi).trans (h i hi)
theorem Kp.mono {X Y : Nat → Prop} {w w' : World} (h : Kp X w w') (hY : ∀ i, Y i → X i) : Kp Y w w' := fun i hi => h i (hY i hi)
abbrev strC (E : En) (out : By) (A : Option Addr) (cap : Nat) : Obj := .cells #[.pointer (some E.rd), .pointer (some E.cs), .pointer (some E.cd), .int .i64 (E.most : Int), .slice A out.length cap] 81 (0, 0)
abbrev oB (A : Option Addr) : Option Nat := (Value.slice A 0 0).ownBlock
theorem oB_is (A : Option Addr) (n c : Nat) : (Value.slice A n c).ownBlock = oB A := by cases A <;> rfl
structure JS (E : En) (K : Nat → Prop) (w : World) (p : Nat) (out : By) : Prop where
  st : ∃ T A cap, w.heap[E.g]? = some (strC E out A cap) ∧ PR w E.rd E.b p T ∧ Own w E.w0.heap.size (.slice A out.length cap) out ∧ (∀ i, T i → E.w0.heap.size ≤ i ∧ ¬ K i ∧ ¬ E.F i ∧ i ≠ E.g ∧ oB A ≠ some i) ∧ (∀ i, oB A = some i → ¬ K i ∧ ¬ E.F i ∧ i ≠ E.g)
  g_ : E.w0.heap.size ≤ E.g ∧ ¬ K E.g ∧ ¬ E.F E.g
  fr : Fr (fun _ => False) E.w0 w
  k : ∀ i, K i → E.w0.heap.size ≤ i ∧ i < w.heap.size
  fx : ∃ S1 S2, PC w E.cs fixI S1 ∧ PC w E.cd five2 S2 ∧ (∀ i, S1 i → E.F i) ∧ (∀ i, S2 i → E.F i) ∧ (∀ i, E.F i → E.w0.heap.size ≤ i ∧ i < w.heap.size)
  le : out.length ≤ E.most ∧ E.most ≤ 262144
  pl : p ≤ 8 * E.b.length
/-- Where the reader stands. -/
def posW (E : En) (w : World) : Nat := match w.cell? E.rd with
  | some (.int _ a) => a.toNat
  | _ => 0
section
variable {E : En} {K K' : Nat → Prop} {w w' : World} {p : Nat} {out : By}
theorem JS.pos (h : JS E K w p out) : posW E w = p := by
  obtain ⟨T, A, cap, _, ⟨g, A', cap', e, hr⟩, _⟩ := h.st
  unfold posW
  rw [e, hr.c0]
  simp
theorem JS.tab (h : JS E K w p out) (hT : Tabs E.w0) : Tabs w := hT.keep h.fr
theorem JS.less (h : JS E K w p out) (hK : ∀ i, K' i → K i) : JS E K' w p out := by
  obtain ⟨T, A, cap, h1, h2, h3, h4, h5⟩ := h.st
  exact ⟨⟨T, A, cap, h1, h2, h3, fun i hi => ⟨(h4 i hi).1, fun e => (h4 i hi).2.1 (hK i e), (h4 i hi).2.2⟩, fun i hi => ⟨fun e => (h5 i hi).1 (hK i e), (h5 i hi).2⟩⟩, ⟨h.g_.1, fun e => h.g_.2.1 (hK _ e), h.g_.2.2⟩, h.fr, fun i hi => h.k i (hK i hi), h.fx, h.le, h.pl⟩
theorem own_le {w : World} {base n cap : Nat} {A : Option Addr} {xs : List Value} {i : Nat} {t : TypeId} (h : w.ownsRow base t 1 (.slice A n cap) n xs) (e : oB A = some i) : base ≤ i ∧ i < w.heap.size := by
  rcases h.2 with ⟨e2, _⟩ | ⟨g, c, cur, e2, hg, hh, _⟩
  · cases e2
    cases e
  · cases e2
    cases e
    exact ⟨hg, lt_of_block hh⟩
/-- What the caller does to blocks of its own, and makes. -/
theorem JS.mine {Y : Nat → Prop} (h : JS E K w p out) (hF : Fr Y w w') (hY : ∀ i, Y i → K i ∧ ¬ E.F i) : JS E (fun i => K i ∨ (w.heap.size ≤ i ∧ i < w'.heap.size)) w' p out := by
  obtain ⟨T, A, cap, h1, h2, h3, h4, h5⟩ := h.st
  have hg := lt_of_block h1
  have hT := (flow_all.r_in h2).1
  obtain ⟨S1, S2, f1, f2, f3, f4, f5⟩ := h.fx
  refine ⟨⟨T, A, cap, (hF.block _ hg (fun e => h.g_.2.1 (hY _ e).1)).trans h1, flow_all.r_keep h2 hF (fun i hi e => (h4 i hi).2.1 (hY i e).1), own_keep h3 (fun q hq => hF.block q (own_le h3 (by rw [← hq, oB_is])).2 (fun e => (h5 q (by rw [← hq, oB_is])).1 (hY q e).1)), fun i hi => ⟨(h4 i hi).1, fun e => ?_, (h4 i hi).2.2⟩, fun i hi => ⟨fun e => ?_, (h5 i hi).2⟩⟩, ⟨h.g_.1, fun e => ?_, h.g_.2.2⟩, h.fr.trans hF (fun i hi e => absurd ((h.k i (hY i e).1).1) (by omega)), fun i e => ?_, ?_, h.le, h.pl⟩
  · rcases e with e | e
    · exact (h4 i hi).2.1 e
    · have := hT i hi; omega
  · rcases e with e | e
    · exact (h5 i hi).1 e
    · have := (own_le h3 hi).2; omega
  · rcases e with e | e
    · exact h.g_.2.1 e
    · omega
  · rcases e with e | e
    · exact ⟨(h.k i e).1, Nat.lt_of_lt_of_le (h.k i e).2 hF.size⟩
    · exact ⟨Nat.le_trans h.fr.size e.1, e.2⟩
  · exact ⟨S1, S2, pc_kept f1 (fun i hi => hF.block i (f5 i (f3 i hi)).2 (fun e => (hY i e).2 (f3 i hi))) hF.size, pc_kept f2 (fun i hi => hF.block i (f5 i (f4 i hi)).2 (fun e => (hY i e).2 (f4 i hi))) hF.size, f3, f4, fun i hi => ⟨(f5 i hi).1, Nat.lt_of_lt_of_le (f5 i hi).2 hF.size⟩⟩
theorem JS.new (h : JS E K w p out) (hF : Fr (fun _ => False) w w') : JS E (fun i => K i ∨ (w.heap.size ≤ i ∧ i < w'.heap.size)) w' p out := h.mine hF (fun _ e => e.elim)
theorem JS.still (h : JS E K w p out) (hF : Fr (fun _ => False) w w') : JS E K w' p out := (h.new hF).less (fun _ e => Or.inl e)
theorem JS.drew (h : JS E K w p out) : JS E K w.drew p out := h.still (Fr.refl _ w).drew
theorem kp_still {X : Nat → Prop} (hX : ∀ i, X i → i < w.heap.size) (hF : Fr (fun _ => False) w w') : Kp X w w' := fun i hi => hF.block i (hX i hi) id
theorem JS.kp (h : JS E K w p out) (hF : Fr (fun _ => False) w w') : Kp K w w' := kp_still (fun i hi => (h.k i hi).2) hF
theorem JS.cells (h : JS E K w p out) : ∃ A cap, w.cell? ⟨E.g, 0, none⟩ = some (.pointer (some E.rd)) ∧ w.cell? ⟨E.g, 1, none⟩ = some (.pointer (some E.cs)) ∧ w.cell? ⟨E.g, 2, none⟩ = some (.pointer (some E.cd)) ∧ w.cell? ⟨E.g, 3, none⟩ = some (.int .i64 (E.most : Int)) ∧ w.cell? ⟨E.g, 4, none⟩ = some (.slice A out.length cap) := by
  obtain ⟨T, A, cap, h1, _⟩ := h.st
  exact ⟨A, cap, (cellAt h1 0).trans rfl, (cellAt h1 1).trans rfl, (cellAt h1 2).trans rfl, (cellAt h1 3).trans rfl, (cellAt h1 4).trans rfl⟩
theorem JS.c0 (h : JS E K w p out) : w.cell? ⟨E.g, 0, none⟩ = some (.pointer (some E.rd)) := by obtain ⟨_, _, h1, _⟩ := h.cells; exact h1
/-- The reader moves. -/
theorem JS.moved {T : Nat → Prop} {A : Option Addr} {cap q : Nat} (h : JS E K w p out) (h1 : w.heap[E.g]? = some (strC E out A cap)) (_ : PR w E.rd E.b p T) (h3 : Own w E.w0.heap.size (.slice A out.length cap) out) (h4 : ∀ i, T i → E.w0.heap.size ≤ i ∧ ¬ K i ∧ ¬ E.F i ∧ i ≠ E.g ∧ oB A ≠ some i) (h5 : ∀ i, oB A = some i → ¬ K i ∧ ¬ E.F i ∧ i ≠ E.g)
    {T' : Nat → Prop} (g1 : PR w' E.rd E.b q T') (g2 : ∀ i, T' i → T i ∨ w.heap.size ≤ i) (g3 : Fr T w w') : JS E K w' q out ∧ Kp K w w' := by
  obtain ⟨S1, S2, f1, f2, f3, f4, f5⟩ := h.fx
  refine ⟨⟨⟨T', A, cap, (g3.block _ (lt_of_block h1) (fun e => (h4 _ e).2.2.2.1 rfl)).trans h1, g1, own_keep h3 (fun q hq => g3.block q (own_le h3 (by rw [← hq, oB_is])).2 (fun e => (h4 q e).2.2.2.2 (by rw [← hq, oB_is]))), fun i hi => ?_, h5⟩, h.g_, h.fr.trans g3 (fun i hi e => absurd (h4 i e).1 (by omega)), fun i hi => ⟨(h.k i hi).1, Nat.lt_of_lt_of_le (h.k i hi).2 g3.size⟩, ?_, h.le, (flow_all.r_in g1).2⟩, fun i hi => g3.block i (h.k i hi).2 (fun e => (h4 i e).2.1 hi)⟩
  · rcases g2 i hi with e | e
    · exact h4 i e
    · have := h.fr.size
      exact ⟨by omega, fun e2 => by have := (h.k i e2).2; omega, fun e2 => by have := (f5 i e2).2; omega, fun e2 => by have := lt_of_block h1; omega, fun e2 => by have := (own_le h3 e2).2; omega⟩
  · exact ⟨S1, S2, pc_kept f1 (fun i hi => g3.block i (f5 i (f3 i hi)).2 (fun e => (h4 i e).2.2.1 (f3 i hi))) g3.size, pc_kept f2 (fun i hi => g3.block i (f5 i (f4 i hi)).2 (fun e => (h4 i e).2.2.1 (f4 i hi))) g3.size, f3, f4, fun i hi => ⟨(f5 i hi).1, Nat.lt_of_lt_of_le (f5 i hi).2 g3.size⟩⟩
theorem JS.take (h : JS E K w p out) (n : Nat) (hn : n ≤ 24) : Calls Tryz.prog 75 #[.pointer (some E.rd), .int .i64 (n : Int)] w fun e w' => (tk n (bitsOf E.b) p = .error 7 ∧ e = .returned (.tuple #[.int .i64 0, .int .i64 7]) ∧ Fr (fun _ => False) E.w0 w' ∧ Kp K w w') ∨ ∃ x : Nat, tk n (bitsOf E.b) p = .ok ((x : Int), p + n) ∧ x < 2 ^ n ∧ e = .returned (.tuple #[.int .i64 (x : Int), .int .i64 0]) ∧ JS E K w' (p + n) out ∧ Kp K w w' := by
  obtain ⟨T, A, cap, h1, h2, h3, h4, h5⟩ := h.st
  refine (flow_all.take w E.rd E.b p T (n : Int) h2 (by omega)).mono fun e w' ⟨he, T', g1, g2, g3⟩ => ?_
  obtain ⟨k1, k2⟩ := h.moved h1 h2 h3 h4 h5 g1 g2 g3
  rcases tk_cases hn (bitsOf_bits E.b) p with ⟨a1, a2, a3⟩ | ⟨x, a1, a2, a3, a4⟩
  · exact Or.inl ⟨a1, by rw [he, a2], k1.fr, k2⟩
  · rw [a3] at k1
    exact Or.inr ⟨x, a1, a4, by rw [he, a2], k1, k2⟩
/-- .. and, where the world went on without the stream. -/
theorem JS.take_at (h : JS E K w p out) (n : Nat) (hn : n ≤ 24) (wx : World) (hF : Fr (fun _ => False) w wx) : Calls Tryz.prog 75 #[.pointer (some E.rd), .int .i64 (n : Int)] wx fun e w' => (tk n (bitsOf E.b) p = .error 7 ∧ e = .returned (.tuple #[.int .i64 0, .int .i64 7]) ∧ Fr (fun _ => False) E.w0 w' ∧ Kp K w w') ∨ ∃ x : Nat, tk n (bitsOf E.b) p = .ok ((x : Int), p + n) ∧ x < 2 ^ n ∧ e = .returned (.tuple #[.int .i64 (x : Int), .int .i64 0]) ∧ JS E K w' (p + n) out ∧ Kp K w w' := by
  refine ((h.still hF).take n hn).mono fun e w' g => ?_
  rcases g with ⟨g1, g2, g3, g4⟩ | ⟨x, g1, g2, g3, g4, g5⟩
  · exact Or.inl ⟨g1, g2, g3, (h.kp hF).trans g4⟩
  · exact Or.inr ⟨x, g1, g2, g3, g4, (h.kp hF).trans g5⟩
theorem JS.take_no (h : JS E K w p out) {n : Nat} (hn : n ≤ 24) (ht : tk n (bitsOf E.b) p = .error 7) (wx : World) (hF : Fr (fun _ => False) w wx) : Calls Tryz.prog 75 #[.pointer (some E.rd), .int .i64 (n : Int)] wx fun e w' => e = .returned (.tuple #[.int .i64 0, .int .i64 7]) ∧ Fr (fun _ => False) E.w0 w' ∧ Kp K w w' := by
  refine (h.take_at n hn wx hF).mono fun e w' g => ?_
  rcases g with g | ⟨x, g1, _⟩
  · exact g.2
  · rw [ht] at g1; cases g1
theorem JS.take_ok (h : JS E K w p out) {n x : Nat} (hn : n ≤ 24) (ht : tk n (bitsOf E.b) p = .ok ((x : Int), p + n)) (wx : World) (hF : Fr (fun _ => False) w wx) : Calls Tryz.prog 75 #[.pointer (some E.rd), .int .i64 (n : Int)] wx fun e w' => e = .returned (.tuple #[.int .i64 (x : Int), .int .i64 0]) ∧ JS E K w' (p + n) out ∧ Kp K w w' := by
  refine (h.take_at n hn wx hF).mono fun e w' g => ?_
  rcases g with g | ⟨y, g1, _, g3⟩
  · rw [ht] at g; cases g.1
  · rw [ht] at g1
    injection g1 with g1
    injection g1 with g1 _
    rw [g1]
    exact g3
/-- A number: an error, or the number. -/
theorem tk_two {n : Nat} (hn : n ≤ 24) (E : En) (p : Nat) : tk n (bitsOf E.b) p = .error 7 ∨ ∃ x : Nat, tk n (bitsOf E.b) p = .ok ((x : Int), p + n) ∧ x < 2 ^ n := by
  rcases tk_cases hn (bitsOf_bits E.b) p with ⟨h, _⟩ | ⟨x, h, _, _, h2⟩
  · exact Or.inl h
  · exact Or.inr ⟨x, h, h2⟩
theorem JS.align (h : JS E K w p out) : Calls Tryz.prog 131 #[.pointer (some E.rd)] w fun e w' => e = .returned (.int .i64 0) ∧ JS E K w' (alignA p) out ∧ Kp K w w' := by
  obtain ⟨T, A, cap, h1, h2, h3, h4, h5⟩ := h.st
  exact (flow_all.align w E.rd E.b p T h2).mono fun e w' ⟨he, T', g1, g2, g3⟩ => ⟨he, h.moved h1 h2 h3 h4 h5 g1 g2 g3⟩
theorem JS.at_ (h : JS E K w p out) : Calls Tryz.prog 55 #[.pointer (some E.rd)] w fun e w' => e = .returned (.int .i64 (p : Int)) ∧ Calm w w' := by
  obtain ⟨T, A, cap, h1, h2, h3, h4, h5⟩ := h.st
  exact flow_all.at_ w E.rd E.b p T h2
/-- A code reads. -/
theorem JS.read (h : JS E K w p out) {c : Addr} {l : List Int} {S : Nat → Prop} (hc : PC w c l S) (hS : ∀ i, S i → K i ∨ E.F i) : Calls Tryz.prog 116 #[.pointer (some c), .pointer (some E.rd)] w fun e w' => (∃ x s : Int, x ≠ 0 ∧ sy l (bitsOf E.b) p = .error x ∧ e = .returned (.tuple #[.int .i64 s, .int .i64 x]) ∧ Fr (fun _ => False) E.w0 w' ∧ Kp K w w') ∨ ∃ s q : Nat, sy l (bitsOf E.b) p = .ok (s, q) ∧ p < q ∧ s < 288 ∧ e = .returned (.tuple #[.int .i64 (s : Int), .int .i64 0]) ∧ JS E K w' q out ∧ Kp K w w' := by
  obtain ⟨T, A, cap, h1, h2, h3, h4, h5⟩ := h.st
  refine (code_all.read w c l S E.rd E.b p T hc h2 (fun i hi e => ?_)).mono fun e w' ⟨he, T', g1, g2, g3⟩ => ?_
  · rcases hS i hi with k | k
    · exact (h4 i e).2.1 k
    · exact (h4 i e).2.2.1 k
  · obtain ⟨k1, k2⟩ := h.moved h1 h2 h3 h4 h5 g1 g2 g3
    have hl := ((okB_iff l).1 (code_all.c_in hc).2).1
    rcases sy_cases l (bitsOf E.b) p with ⟨x, a1, a2, a3⟩ | ⟨s, a1, a2, a3, a4, _⟩
    · rw [a3] at he
      exact Or.inl ⟨x, _, a1, a2, he, k1.fr, k2⟩
    · have := sy_lt a1
      rw [a2, a3] at he
      exact Or.inr ⟨s, _, a1, a4, by omega, he, k1, k2⟩
theorem JS.read_no (h : JS E K w p out) {c : Addr} {l : List Int} {S : Nat → Prop} (hc : PC w c l S) (hS : ∀ i, S i → K i ∨ E.F i) {x : Int} (ht : sy l (bitsOf E.b) p = .error x) (wx : World) (hF : Fr (fun _ => False) w wx) : Calls Tryz.prog 116 #[.pointer (some c), .pointer (some E.rd)] wx fun e w' => (∃ s : Int, e = .returned (.tuple #[.int .i64 s, .int .i64 x])) ∧ Fr (fun _ => False) E.w0 w' ∧ Kp K w w' := by
  refine ((h.still hF).read (code_all.c_keep hc hF (fun _ _ e => e)) hS).mono fun e w' g => ?_
  rcases g with ⟨y, s, _, g1, g2, g3, g4⟩ | ⟨s, q, g1, _⟩
  · rw [ht] at g1
    injection g1 with g1
    rw [g1]
    exact ⟨⟨s, g2⟩, g3, (h.kp hF).trans g4⟩
  · rw [ht] at g1; cases g1
theorem JS.read_ok (h : JS E K w p out) {c : Addr} {l : List Int} {S : Nat → Prop} (hc : PC w c l S) (hS : ∀ i, S i → K i ∨ E.F i) {s q : Nat} (ht : sy l (bitsOf E.b) p = .ok (s, q)) (wx : World) (hF : Fr (fun _ => False) w wx) : Calls Tryz.prog 116 #[.pointer (some c), .pointer (some E.rd)] wx fun e w' => e = .returned (.tuple #[.int .i64 (s : Int), .int .i64 0]) ∧ JS E K w' q out ∧ Kp K w w' := by
  refine ((h.still hF).read (code_all.c_keep hc hF (fun _ _ e => e)) hS).mono fun e w' g => ?_
  rcases g with ⟨y, s, _, g1, _⟩ | ⟨s2, q2, g1, _, _, g2, g3, g4⟩
  · rw [ht] at g1; cases g1
  · rw [ht] at g1
    injection g1 with g1
    injection g1 with g1 g5
    rw [g1, g5]
    exact ⟨g2, g3, (h.kp hF).trans g4⟩
/-- A symbol: an error, or the symbol. -/
theorem sy_two {l : List Int} (hl : l.length ≤ 288) (E : En) (p : Nat) : (∃ x : Int, x ≠ 0 ∧ sy l (bitsOf E.b) p = .error x) ∨ ∃ s q : Nat, sy l (bitsOf E.b) p = .ok (s, q) ∧ p < q ∧ s < 288 := by
  rcases sy_cases l (bitsOf E.b) p with ⟨x, h1, h2, _⟩ | ⟨s, h1, _, _, h2, _⟩
  · exact Or.inl ⟨x, h1, h2⟩
  · exact Or.inr ⟨s, _, h1, h2, Nat.lt_of_lt_of_le (sy_lt h1) hl⟩
/-- Bytes come out. -/
theorem JS.bytes (h : JS E K w p out) (n : Nat) (hn : n ≤ 262144) (h8 : p % 8 = 0) : Calls Tryz.prog 112 #[.pointer (some E.rd), .int .i64 (n : Int)] w fun e w' => ∃ (A2 : Option Addr) (cap2 : Nat) (l : By) (x : Int), e = .returned (.tuple #[.slice A2 l.length cap2, .int .i64 x]) ∧ Own w' w.heap.size (.slice A2 l.length cap2) l ∧ (∀ i, oB A2 = some i → ¬ K i) ∧ ((x = 7 ∧ l = [] ∧ by8 n (bitsOf E.b) p = .error 7 ∧ ∃ q, JS E K w' q out) ∨ x = 0 ∧ l.length = n ∧ by8 n (bitsOf E.b) p = .ok (l, p + 8 * n) ∧ JS E K w' (p + 8 * n) out) ∧ Kp K w w' := by
  obtain ⟨T, A, cap, h1, h2, h3, h4, h5⟩ := h.st
  refine (flow_all.bytes w E.rd E.b p T (n : Int) h2 (by omega)).mono fun e w' ⟨A2, cap2, T', he, ho, g1, g2, g3⟩ => ?_
  obtain ⟨k1, k2⟩ := h.moved h1 h2 h3 h4 h5 g1 (fun i hi => (g2 i hi).1) g3
  have hnk : ∀ i, oB A2 = some i → ¬ K i := fun i hi e => by
    have := (own_le ho hi).1
    have := (h.k i e).2
    omega
  rcases by8_cases n E.b h8 h.pl with ⟨a1, a2⟩ | ⟨l, a1, a2, a3, a4⟩
  · rw [a2] at he ho
    exact ⟨A2, cap2, [], 7, he, ho, hnk, Or.inl ⟨rfl, rfl, a1, _, k1⟩, k2⟩
  · rw [a2] at he ho
    rw [a3] at k1
    exact ⟨A2, cap2, l, 0, he, ho, hnk, Or.inr ⟨rfl, a4, a1, k1⟩, k2⟩
end
end Go.Proofs.YtcdhakfmljjaoaaGreatDoor.ft

/-
  The program's codes of a block: codeOf, pairOf, fixedPair.
-/
namespace Go.Proofs.YtcdhakfmljjaoaaGreatDoor.ft
set_option maxRecDepth 100000
open Go.RowKit Go.Maps Go.Proofs.YtcdhakfmljjaoaaGreatDoor.fl Go.Proofs.YtcdhakfmljjaoaaGreatDoor.cd
set_option maxRecDepth 100000

theorem results_pair {fn : Func} {p q : Tmp} (h : fn.results = #[.cell p 78, .tmp q]) (tmps : Array Value) (w : World) (g : Nat) (cs : Array Value) (v : Value) (hs : cs.size = 2)
    (hp : tmps.getD p undef = .pointer (some ⟨g, 0, none⟩)) (hv : tmps.getD q undef = v) (hg : w.heap[g]? = some (.cells cs 78 (0, 0))) :
    (results fn tmps).run Tryz.prog w = .ok (.tuple #[.agg cs, v]) w := by
  have hp' : tmps[p]?.getD undef = .pointer (some ⟨g, 0, none⟩) := by simpa using hp
  have hq' : tmps[q]?.getD undef = v := by simpa using hv
  have hr := run_loadVar_row (P := Tryz.prog) w g 78 78 cs (0, 0) _ hg Tryz.underlying78 rfl (by rw [hs]; kernel_rfl)
  simp [results, h, hp', hq', asAddr, hr]
theorem rdI_more {w : World} {B B' : Nat} {A : Option Addr} {l : List Int} (h : RdI w B A l) (hB : B ≤ B') : RdI w B' A l := ⟨fun hne => by
  obtain ⟨blk, off, e, h1, h2⟩ := h.1 hne
  exact ⟨blk, off, e, Nat.lt_of_lt_of_le h1 hB, h2⟩, h.2⟩
abbrev prC (a b : Option Addr) : Obj := .cells #[.pointer a, .pointer b] 78 (0, 0)
/-- A pair's cells are set. -/
theorem pair_set {w w0 : World} {g : Nat} {a b a' b' : Option Addr} (hg : w.heap[g]? = some (prC a b)) (h0 : w0.heap.size ≤ g) (hF : Fr (fun _ => False) w0 w) :
    w.cell? ⟨g, 0, none⟩ = some (.pointer a) ∧ w.cell? ⟨g, 1, none⟩ = some (.pointer b) ∧ w.frozen? ⟨g, 0, none⟩ = false ∧ w.frozen? ⟨g, 1, none⟩ = false ∧ ((w.setCell ⟨g, 0, none⟩ (.pointer a')).setCell ⟨g, 1, none⟩ (.pointer b')).heap[g]? = some (prC a' b') ∧ Fr (fun _ => False) w0 ((w.setCell ⟨g, 0, none⟩ (.pointer a')).setCell ⟨g, 1, none⟩ (.pointer b')) ∧ Fr (· = g) w ((w.setCell ⟨g, 0, none⟩ (.pointer a')).setCell ⟨g, 1, none⟩ (.pointer b')) :=
  ⟨(cellAt hg 0).trans rfl, (cellAt hg 1).trans rfl, freeAt hg 0, freeAt hg 1, by rw [heap_setCell_same _ _ _ _ _ _ (heap_setCell_same _ _ _ _ _ _ hg)]; rfl, (hF.setCell (p := ⟨g, 0, none⟩) (Or.inr h0) _).setCell (p := ⟨g, 1, none⟩) (Or.inr h0) _, ((Fr.refl (· = g) w).setCell (p := ⟨g, 0, none⟩) (Or.inl rfl) _).setCell (p := ⟨g, 1, none⟩) (Or.inl rfl) _⟩
abbrev prV (a b : Option Addr) : Value := .agg #[.pointer a, .pointer b]
/-- What codeOf answers. -/
def CodeA (w : World) (l : List Int) (e : Ending) (w' : World) : Prop := (okB l = true ∧ ∃ a S, e = .returned (.tuple #[.pointer (some a), .int .i64 0]) ∧ PC w' a l S ∧ (∀ i, S i → w.heap.size ≤ i) ∧ Fr (fun _ => False) w w') ∨ (okB l = false ∧ e = .returned (.tuple #[.pointer none, .int .i64 110]) ∧ Fr (fun _ => False) w w')
set_option maxHeartbeats 1000000 in
theorem pcodeOf (w : World) (A : Option Addr) (cap : Nat) (l : List Int) (hr : RdI w w.heap.size A l) (hb : l.length ≤ 140737488351232) :
    Calls Tryz.prog 92 #[.slice A l.length cap] w (CodeA w l) := by
  obtain ⟨n, hn⟩ : ∃ n, n = l.length := ⟨_, rfl⟩
  cases hok : okB l with
  | true =>
    have HN := Lib.hid (pnew_ok w A cap l hr hb hok)
    rw [← hn] at HN ⊢
    clear hr hb hn
    go_enter Tryz.func92, Tryz.ntmps92
    go_wp2_with (go_at_call 104; refine HN.out.mono ?_; rintro e w1 ⟨a, S, rfl, h1, h2, h3⟩; have H1 := Lib.hid (⟨h1, h2, h3⟩ : _ ∧ _ ∧ _); clear h1 h2 h3)
    go_ret2
    exact Or.inl ⟨hok, a, S, rfl, H1.out⟩
  | false =>
    have HN := Lib.hid (pnew_no w A cap l hr hb hok)
    rw [← hn] at HN ⊢
    clear hr hb hn
    go_enter Tryz.func92, Tryz.ntmps92
    go_wp2_with (go_at_call 104; refine HN.out.mono ?_; rintro e w1 ⟨rfl, h3⟩; have H1 := Lib.hid h3; clear h3)
    go_ret2
    exact Or.inr ⟨hok, rfl, H1.out⟩
/-- What pairOf answers. -/
def PairA (w : World) (l m : List Int) (e : Ending) (w' : World) : Prop := ((okB l = true ∧ okB m = true) ∧ ∃ a b S T, e = .returned (.tuple #[prV (some a) (some b), .int .i64 0]) ∧ PC w' a l S ∧ PC w' b m T ∧ (∀ i, S i → w.heap.size ≤ i) ∧ (∀ i, T i → w.heap.size ≤ i) ∧ Fr (fun _ => False) w w') ∨ (¬ (okB l = true ∧ okB m = true) ∧ e = .returned (.tuple #[prV none none, .int .i64 110]) ∧ Fr (fun _ => False) w w')
set_option maxHeartbeats 2000000 in
theorem ppairOf (w : World) (A : Option Addr) (cap : Nat) (l : List Int) (hr : RdI w w.heap.size A l) (hb : l.length ≤ 140737488351232) (A2 : Option Addr) (cap2 : Nat) (l2 : List Int) (hr2 : RdI w w.heap.size A2 l2) (hb2 : l2.length ≤ 140737488351232) :
    Calls Tryz.prog 72 #[.slice A l.length cap, .slice A2 l2.length cap2] w (PairA w l l2) := by
  have hF0 : ∀ o, Fr (fun _ => False) w (w.alloc o) := fun o => (Fr.refl _ w).alloc o
  have HF0 := Lib.hid hF0
  have HC1 := Lib.hid (fun o => pcodeOf (w.alloc o) A cap l (rdI_more (hr.still (hF0 o) (Nat.le_refl _)) (hF0 o).size) hb)
  have HC2 := Lib.hid (fun (w1 : World) (hF : Fr (fun _ => False) w w1) => pcodeOf w1 A2 cap2 l2 (rdI_more (hr2.still hF (Nat.le_refl _)) hF.size) hb2)
  obtain ⟨n, hn⟩ : ∃ n, n = l.length := ⟨_, rfl⟩
  obtain ⟨m, hm⟩ : ∃ m, m = l2.length := ⟨_, rfl⟩
  rw [← hn] at HC1 ⊢
  rw [← hm] at HC2 ⊢
  have HZ := Lib.hid (fun (o : Obj) => heap_alloc_new w o)
  clear hr hr2 hb hb2 hn hm hF0
  go_enter Tryz.func72, Tryz.ntmps72
  go_wp2_with fail
  refine (HC1.out _).mono ?_
  rintro e w1 (⟨hok, a, S, rfl, h1, h2, h3⟩ | ⟨hok, rfl, h3⟩)
  · have H1 := Lib.hid (⟨h1, h2, (HF0.out _).trans h3 (fun _ _ e => e), (h3.block _ (by rw [World.size_alloc]; omega) id).trans (HZ.out _)⟩ : _ ∧ _ ∧ _ ∧ _)
    clear h1 h2 h3
    go_wp2_with fail
    refine (HC2.out w1 H1.out.2.2.1).mono ?_
    rintro e w2 (⟨hok2, b, T, rfl, h1, h2, h3⟩ | ⟨hok2, rfl, h3⟩)
    · have hz := (h3.block _ (lt_of_block H1.out.2.2.2) id).trans H1.out.2.2.2
      have HP := Lib.hid (pair_set (a' := some a) (b' := some b) hz (Nat.le_refl _) (H1.out.2.2.1.trans h3 (fun _ _ e => e)))
      obtain ⟨y0, y1, z0, z1, -⟩ := HP.out
      have H2 := Lib.hid (⟨h1, h2, h3⟩ : _ ∧ _ ∧ _)
      clear h1 h2 h3 hz
      go_wp2_with fail
      obtain ⟨-, -, -, -, p5, p6, p7⟩ := HP.out
      refine bodyPost_ret (v := .tuple #[prV (some a) (some b), .int .i64 0]) (results_pair rfl _ _ w.heap.size #[.pointer (some a), .pointer (some b)] (.int .i64 0) rfl rfl rfl p5) rfl (Or.inl ⟨⟨hok, hok2⟩, a, b, S, T, rfl, ?_, ?_, ?_, ?_, p6⟩)
      · exact code_all.c_keep (code_all.c_keep H1.out.1 H2.out.2.2 (fun _ _ e => e)) p7 (fun i hi e => by have := H1.out.2.1 i hi; rw [World.size_alloc] at this; omega)
      · exact code_all.c_keep H2.out.1 p7 (fun i hi e => by have := H2.out.2.1 i hi; have := lt_of_block H1.out.2.2.2; omega)
      · exact fun i hi => by have := H1.out.2.1 i hi; rw [World.size_alloc] at this; omega
      · exact fun i hi => Nat.le_trans H1.out.2.2.1.size (H2.out.2.1 i hi)
    · have hz := (h3.block _ (lt_of_block H1.out.2.2.2) id).trans H1.out.2.2.2
      have HP := Lib.hid (pair_set (a' := none) (b' := none) hz (Nat.le_refl _) (H1.out.2.2.1.trans h3 (fun _ _ e => e)))
      obtain ⟨y0, y1, z0, z1, -⟩ := HP.out
      clear h3 hz
      go_wp2_with fail
      obtain ⟨-, -, -, -, p5, p6, p7⟩ := HP.out
      exact bodyPost_ret (v := .tuple #[prV none none, .int .i64 110]) (results_pair rfl _ _ w.heap.size #[.pointer none, .pointer none] (.int .i64 110) rfl rfl rfl p5) rfl (Or.inr ⟨fun e => (by rw [hok2] at e; cases e.2), rfl, p6⟩)
  · have hz := (h3.block w.heap.size (by rw [World.size_alloc]; omega) id).trans (HZ.out _)
    have HP := Lib.hid (pair_set (a' := none) (b' := none) hz (Nat.le_refl _) ((HF0.out _).trans h3 (fun _ _ e => e)))
    obtain ⟨y0, y1, z0, z1, -⟩ := HP.out
    clear h3 hz
    go_wp2_with fail
    obtain ⟨-, -, -, -, p5, p6, p7⟩ := HP.out
    exact bodyPost_ret (v := .tuple #[prV none none, .int .i64 110]) (results_pair rfl _ _ w.heap.size #[.pointer none, .pointer none] (.int .i64 110) rfl rfl rfl p5) rfl (Or.inr ⟨fun e => (by rw [hok] at e; cases e.1), rfl, p6⟩)
set_option maxHeartbeats 1000000 in
theorem pmul64_32 (w : World) : Calls Tryz.prog 107 #[.int .u64 1, .int .u64 32] w fun e w' => e = .returned (.tuple #[.int .u64 0, .int .u64 32]) ∧ w = w' := by
  go_enter Tryz.func107, Tryz.ntmps107
  go_wp2_with fail
  go_ret2
  exact ⟨rfl, rfl⟩
set_option maxHeartbeats 1000000 in
theorem pmul_32 (w : World) : Calls Tryz.prog 94 #[.int .u64 1, .int .u64 32] w fun e w' => e = .returned (.tuple #[.int .u64 0, .int .u64 32]) ∧ w = w' := by
  have H := Lib.hid (pmul64_32 w)
  go_enter Tryz.func94, Tryz.ntmps94
  go_wp2_with (go_at_call 107; refine H.out.mono ?_; rintro e w' ⟨rfl, rfl⟩)
  go_ret2
  exact ⟨rfl, rfl⟩
theorem fixI_in : ∀ x ∈ fixI, -9223372036854775808 ≤ x ∧ x ≤ 9223372036854775807 := by decide +kernel
theorem five2_in : ∀ x ∈ five2, -9223372036854775808 ≤ x ∧ x ≤ 9223372036854775807 := by decide +kernel
set_option maxHeartbeats 2000000 in
theorem pfixedPair (w : World) : Calls Tryz.prog 53 #[] w fun e w' => ∃ a b S T, e = .returned (prV (some a) (some b)) ∧ PC w' a fixI S ∧ PC w' b five2 T ∧ (∀ i, S i → w.heap.size ≤ i) ∧ (∀ i, T i → w.heap.size ≤ i) ∧ Fr (fun _ => False) w w' := by
  have HA := Lib.hid (fun (wx : World) (o : Obj) => (Fr.refl (fun _ => False) wx).alloc o)
  have HZ := Lib.hid (fun (wx : World) (o : Obj) => heap_alloc_new wx o)
  have HF := Lib.hid (fun wx : World => code_all.fixed wx)
  have HR := Lib.hid (fun wx : World => prepeat (wx.alloc (.cells #[.int .i64 5] 3)) wx.heap.size 5 32 (by omega) (by omega) (heap_alloc_new _ _) pmul_32)
  go_enter Tryz.func53, Tryz.ntmps53
  go_wp2_with fail
  refine (HF.out _).mono ?_
  rintro e w1 ⟨A, cap, rfl, ho, hF⟩
  have H1 := Lib.hid (⟨ho, (HA.out w _).trans hF (fun _ _ e => e), (hF.block w.heap.size (by rw [World.size_alloc]; omega) id).trans (HZ.out _ _)⟩ : _ ∧ _ ∧ _)
  clear ho hF
  obtain ⟨n, hn⟩ : ∃ n, n = fixI.length := ⟨_, rfl⟩
  have HN := Lib.hid hn
  rw [← hn]
  clear hn
  go_wp2_with fail
  refine (HR.out _).mono ?_
  rintro e w2 ⟨g, rfl, r1, r2, hF⟩
  have hF2 := (HA.out w1 _).trans hF (fun _ _ e => e)
  have HI := Lib.hid (⟨OwnI.rd (OwnI.kept H1.out.1 hF2) fixI_in, (show RdI w2 w2.heap.size (some ⟨g, 0, none⟩) five2 from ⟨fun _ => ⟨g, 0, rfl, lt_of_block r1, fun j x hj => by rw [Nat.zero_add, cellAt r1, List.getElem?_toArray, is_get, hj]; rfl⟩, five2_in⟩)⟩ : _ ∧ _)
  have H2 := Lib.hid (⟨hF2, H1.out.2.1.trans hF2 (fun _ _ e => e), (hF2.block _ (lt_of_block H1.out.2.2) id).trans H1.out.2.2⟩ : _ ∧ _ ∧ _)
  clear r1 r2 hF hF2
  have HP := Lib.hid (ppairOf w2 A cap fixI HI.out.1 (by decide +kernel) (some ⟨g, 0, none⟩) 32 five2 HI.out.2 (by decide))
  rw [← HN.out, show five2.length = 32 from rfl] at HP
  go_wp2_with fail
  refine HP.out.mono ?_
  rintro e w3 (⟨-, a, b, S, T, rfl, h1, h2, h3, h4, h5⟩ | ⟨hno, _⟩)
  case inr => exact absurd ⟨fix_ok, five2_ok⟩ hno
  have hz := (h5.block _ (lt_of_block H2.out.2.2) id).trans H2.out.2.2
  have H3 := Lib.hid (⟨h1, h2, h3, h4, h5⟩ : _ ∧ _ ∧ _ ∧ _ ∧ _)
  have hz2 : (w3.alloc (.cells #[.pointer (some a), .pointer (some b)] 78)).heap[w.heap.size]? = some (prC none none) := (Below.heap_alloc _ _ _ (lt_of_block hz)).trans hz
  have HP2 := Lib.hid (pair_set (a' := some a) (b' := some b) hz2 (Nat.le_refl _) ((H2.out.2.1.trans h5 (fun _ _ e => e)).alloc _))
  obtain ⟨y0, y1, z0, z1, -⟩ := HP2.out
  clear h1 h2 h3 h4 h5 hz hz2
  go_wp2_with fail
  obtain ⟨-, -, -, -, p5, p6, p7⟩ := HP2.out
  have hA := HA.out w3 (.cells #[.pointer (some a), .pointer (some b)] 78)
  refine bodyPost_ret (v := prV (some a) (some b)) (results_cell_row rfl _ _ w.heap.size 78 #[.pointer (some a), .pointer (some b)] (0, 0) _ rfl p5 Tryz.underlying78 rfl (by kernel_rfl)) rfl ⟨a, b, S, T, rfl, ?_, ?_, ?_, ?_, p6⟩
  · exact code_all.c_keep (code_all.c_keep H3.out.1 hA (fun _ _ e => e)) p7 (fun i hi e => by have := H3.out.2.2.1 i hi; have := lt_of_block H2.out.2.2; omega)
  · exact code_all.c_keep (code_all.c_keep H3.out.2.1 hA (fun _ _ e => e)) p7 (fun i hi e => by have := H3.out.2.2.2.1 i hi; have := lt_of_block H2.out.2.2; omega)
  · exact fun i hi => Nat.le_trans H2.out.2.1.size (H3.out.2.2.1 i hi)
  · exact fun i hi => Nat.le_trans H2.out.2.1.size (H3.out.2.2.2.1 i hi)
end Go.Proofs.YtcdhakfmljjaoaaGreatDoor.ft
