/-
  The program's Read.
-/
import Derived.Test.YtcdhakfmljjaoaaGreatDoorCpH
import Derived.Test.YtcdhakfmljjaoaaGreatDoorJB
import Derived.Deep.DeepCutAuto
namespace Go.Proofs.YtcdhakfmljjaoaaGreatDoor.cd
set_option maxRecDepth 100000
open Go.RowKit Go.Maps Go.Proofs.YtcdhakfmljjaoaaGreatDoor.fl
set_option maxRecDepth 100000

theorem or_bit {v x : Nat} (hv : v ≤ 100000) (hx : x ≤ 1) : bits .or .i64 ((v : Int) * 2) (x : Int) = (v : Int) * 2 + (x : Int) := by
  obtain ⟨v2, hv2⟩ : ∃ v2, v2 = 2 * v := ⟨_, rfl⟩
  have h := (bits_nat .i64 63 (by decide) wraps_i64 v2 x (by omega) (by omega)).2
  have e : (v : Int) * 2 = (v2 : Int) := by omega
  rw [e, h]
  have := Nat.two_pow_add_eq_or_of_lt (i := 1) (b := x) (by omega) v
  rw [show 2 ^ 1 * v = v2 by omega] at this
  omega
theorem take1_none {B : List Int} {p : Nat} (h : B[p]? = none) : takeV B p 1 = (0, 7) ∧ takeA B p 1 = p := by
  have hl := List.getElem?_eq_none_iff.1 h
  unfold takeV takeA
  rw [if_neg (by omega), if_pos (by omega), if_neg (by omega), if_pos (by omega)]
  exact ⟨rfl, rfl⟩
theorem take1_some {B : List Int} {p : Nat} {x : Int} (h : B[p]? = some x) : takeV B p 1 = (x, 0) ∧ takeA B p 1 = p + 1 := by
  obtain ⟨hl, hx⟩ := List.getElem?_eq_some_iff.1 h
  unfold takeV takeA
  rw [if_neg (by omega), if_neg (by omega), if_neg (by omega), if_neg (by omega)]
  refine ⟨?_, rfl⟩
  rw [List.drop_eq_getElem_cons hl, hx]
  show (numI [x], (0 : Int)) = _
  simp [numI]
/-- What lies there while a code is read. -/
structure RdS (R : RP) (w : World) (g gw gs : Nat) (l sy : List Int) (S : Nat → Prop) (r : Addr) (b : List UInt8) (T : Nat → Prop) (f s : Int) (p : Nat) (wr : World) : Prop where
  cod : CodM wr g gw gs l sy S
  lev : wr.heap[w.heap.size]? = some (.cells #[.int .i64 f, .int .i64 s] 159 (0, 0))
  rd : ∃ T', R wr r b p T' ∧ ∀ i, T' i → T i ∨ w.heap.size + 1 ≤ i
  fr : Fr T w wr
section
variable {R : RP} {V : VP} {w wr w' : World} {g gw gs : Nat} {l sy : List Int} {S T : Nat → Prop} {r : Addr} {b : List UInt8} {f s : Int} {p : Nat}
theorem RdS.start (HF : FlowP R V) (h : CodM w g gw gs l sy S) (hr : R w r b p T) : RdS R w g gw gs l sy S r b T 0 0 p (w.alloc (.cells #[.int .i64 0, .int .i64 0] 159)) :=
  ⟨h.still ((Fr.refl _ w).alloc _), heap_alloc_new _ _, ⟨T, HF.r_keep hr ((Fr.refl (fun _ => False) w).alloc _) (fun _ _ e => e), fun _ e => Or.inl e⟩, (Fr.refl _ w).alloc _⟩
theorem RdS.still (HF : FlowP R V) (h : RdS R w g gw gs l sy S r b T f s p wr) (hF : Fr (fun _ => False) wr w') : RdS R w g gw gs l sy S r b T f s p w' := by
  obtain ⟨T', h1, h2⟩ := h.rd
  exact ⟨h.cod.still hF, (hF.block _ (lt_of_block h.lev) id).trans h.lev, ⟨T', HF.r_keep h1 hF (fun _ _ e => e), h2⟩, h.fr.trans hF (fun _ _ e => e.elim)⟩
theorem RdS.set (HF : FlowP R V) (hT : ∀ i, T i → i < w.heap.size) (hS : ∀ i, S i → i < w.heap.size) (h : RdS R w g gw gs l sy S r b T f s p wr) (f2 s2 : Int) :
    (wr.cell? ⟨w.heap.size, 0, none⟩ = some (.int .i64 f) ∧ wr.cell? ⟨w.heap.size, 1, none⟩ = some (.int .i64 s) ∧ wr.frozen? ⟨w.heap.size, 0, none⟩ = false ∧ wr.frozen? ⟨w.heap.size, 1, none⟩ = false) ∧
    RdS R w g gw gs l sy S r b T f2 s2 p ((wr.setCell ⟨w.heap.size, 0, none⟩ (.int .i64 f2)).setCell ⟨w.heap.size, 1, none⟩ (.int .i64 s2)) := by
  obtain ⟨T', h1, h2⟩ := h.rd
  have hF : Fr (fun i => i = w.heap.size) wr ((wr.setCell ⟨w.heap.size, 0, none⟩ (.int .i64 f2)).setCell ⟨w.heap.size, 1, none⟩ (.int .i64 s2)) := ((Fr.refl (fun i => i = w.heap.size) wr).setCell (p := ⟨w.heap.size, 0, none⟩) (Or.inl rfl) _).setCell (p := ⟨w.heap.size, 1, none⟩) (Or.inl rfl) _
  refine ⟨⟨by rw [cellAt h.lev]; rfl, by rw [cellAt h.lev]; rfl, freeAt h.lev _, freeAt h.lev _⟩, ⟨h.cod.keep hF (fun i hi e => by have := hS i hi; omega), ?_, ⟨T', HF.r_keep h1 hF (fun i hi e => ?_), h2⟩, h.fr.trans hF (fun i hi e => absurd hi (by omega))⟩⟩
  · rw [heap_setCell_same _ _ _ _ _ _ (heap_setCell_same _ _ _ _ _ _ h.lev)]
    rfl
  · rcases h2 i hi with h3 | h3
    · have := hT i h3
      omega
    · omega
theorem RdS.take (HF : FlowP R V) (hT : ∀ i, T i → i < w.heap.size) (hS : ∀ i, S i → i < w.heap.size ∧ ¬ T i) (h : RdS R w g gw gs l sy S r b T f s p wr) :
    Calls Tryz.prog 75 #[.pointer (some r), .int .i64 1] wr fun e w' => e = .returned (.tuple #[.int .i64 (takeV (bitsOf b) p 1).1, .int .i64 (takeV (bitsOf b) p 1).2]) ∧ RdS R w g gw gs l sy S r b T f s (takeA (bitsOf b) p 1) w' := by
  obtain ⟨T', h1, h2⟩ := h.rd
  have hz := lt_of_block h.lev
  refine (HF.take wr r b p T' 1 h1 (by omega)).mono fun e w' ⟨e1, T2, e2, e3, e4⟩ => ⟨e1, ⟨h.cod.keep e4 (fun i hi e => ?_), (e4.block _ hz (fun e => ?_)).trans h.lev, ⟨T2, e2, fun i hi => ?_⟩, h.fr.trans e4 (fun i hi e => ?_)⟩⟩
  · rcases h2 i e with h3 | h3
    · exact (hS i hi).2 h3
    · have := (hS i hi).1
      omega
  · rcases h2 _ e with h3 | h3
    · have := hT _ h3
      omega
    · omega
  · rcases e3 i hi with h3 | h3
    · exact h2 i h3
    · exact Or.inr (by omega)
  · rcases h2 i e with h3 | h3
    · exact h3
    · omega
theorem RdS.after (h : RdS R w g gw gs l sy S r b T f s p wr) : RAft R w r b T p wr := by
  obtain ⟨T', h1, h2⟩ := h.rd
  exact ⟨T', h1, fun i hi => (h2 i hi).imp id (fun h => by omega), h.fr⟩
end
/-- How far the reading has come. -/
structure RdK (l B : List Int) (p z : Nat) (k : Nat) (got : List Int) (p2 v : Nat) : Prop where
  len : got.length = k
  bit : AllBit got
  low : (lim l k : Int) ≤ valH got
  v : valH got = (v : Int)
  eq : rdW (wordsL l) B (z - k) got p2 = rdC l B p
theorem RdK.start {l B : List Int} {p z : Nat} (hz : z = mostW (wordsL l)) : RdK l B p z 0 [] p 0 := ⟨rfl, (fun x hx => by cases hx), by simp [lim, valH, numI], by simp [valH, numI], by rw [hz, Nat.sub_zero]; rfl⟩
theorem RdK.end_ {l B : List Int} {p z : Nat} {got : List Int} {p2 v : Nat} (h : RdK l B p z z got p2 v) : rdC l B p = (0, 110, p2) := by
  rw [← h.eq, Nat.sub_self]
  rfl
theorem RdK.none {l B : List Int} {p z k : Nat} {got : List Int} {p2 v : Nat} (h : RdK l B p z k got p2 v) (hk : k < z) (hB : B[p2]? = none) : rdC l B p = (0, 7, p2) := by
  obtain ⟨m, hm⟩ : ∃ m, z - k = m + 1 := ⟨z - k - 1, by omega⟩
  rw [← h.eq, hm, rdW, hB]
theorem RdK.hit {l B : List Int} {p z k : Nat} {got : List Int} {p2 v : Nat} (hok : okB l = true) (h : RdK l B p z k got p2 v) (hk : k < z) {x : Nat} (hx : x ≤ 1) (hB : B[p2]? = some (x : Int)) {d : Int} (hd : (v : Int) * 2 + x = 2 * (lim l k : Int) + d) (h1 : d < cnt l (k + 1)) :
    0 ≤ d ∧ ∃ i, Has l i (k + 1) ∧ plN l i = shN l (k + 1) + d.toNat ∧ rdC l B p = (i, 0, p2 + 1) := by
  have h0 : 0 ≤ d := by have := h.low; have := h.v; omega
  have hb : AllBit (got ++ [(x : Int)]) := h.bit.append (fun y hy => by rw [List.mem_singleton.1 hy]; omega)
  have hs := valH_snoc got (x : Int)
  rw [h.v] at hs
  obtain ⟨i, e1, e2, e3⟩ := step_hit hok hb (k := k) (d := d) (by rw [List.length_append, h.len]; rfl) (by omega) h0 h1
  refine ⟨h0, i, e2, e3, ?_⟩
  obtain ⟨m, hm⟩ : ∃ m, z - k = m + 1 := ⟨z - k - 1, by omega⟩
  rw [← h.eq, hm, rdW, hB]
  simp only [e1]
theorem RdK.next {l B : List Int} {p z k : Nat} {got : List Int} {p2 v : Nat} (hok : okB l = true) (h : RdK l B p z k got p2 v) (hk : k < z) {x : Nat} (hx : x ≤ 1) (hB : B[p2]? = some (x : Int)) {d : Int} (hd : (v : Int) * 2 + x = 2 * (lim l k : Int) + d) (h1 : ¬ d < cnt l (k + 1)) :
    RdK l B p z (k + 1) (got ++ [(x : Int)]) (p2 + 1) (v * 2 + x) := by
  have hb : AllBit (got ++ [(x : Int)]) := h.bit.append (fun y hy => by rw [List.mem_singleton.1 hy]; omega)
  have hs := valH_snoc got (x : Int)
  rw [h.v] at hs
  have hl : (got ++ [(x : Int)]).length = k + 1 := by rw [List.length_append, h.len]; rfl
  obtain ⟨e1, e2⟩ := step_miss hok (got := got ++ [(x : Int)]) (k := k) (d := d) hl (by omega) h1
  refine ⟨hl, hb, e2, by rw [hs]; push_cast; omega, ?_⟩
  obtain ⟨m, hm⟩ : ∃ m, z - k = m + 1 := ⟨z - k - 1, by omega⟩
  rw [← h.eq, hm, rdW, hB, show z - (k + 1) = m by omega]
  simp only [e1]
theorem RdK.small {l B : List Int} {p z k : Nat} {got : List Int} {p2 v : Nat} (h : RdK l B p z k got p2 v) (hk : k ≤ 15) : v ≤ 32768 := by
  have h1 := valH_in h.bit
  rw [h.len, h.v] at h1
  have h2 : (2 : Int) ^ k ≤ 2 ^ 15 := by exact_mod_cast Nat.pow_le_pow_right (n := 2) (by omega) hk
  omega
end Go.Proofs.YtcdhakfmljjaoaaGreatDoor.cd
