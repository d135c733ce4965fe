/-
  Texts that belong together, joined: FlR FlT FlH FlV FlS FlX FlG BitsM BitsF BitsG FlI.
-/
import Derived.Test.YtcdhakfmljjaoaaGreatDoorJA
import Derived.Deep.DeepCutAuto
import Derived.Deep.CutBlock
import Derived.Laws.BitsLemmas
import Derived.WalkKit
import Derived.Lib.SliceRun
import Derived.KernelRfl
import Derived.StillTailTactics

/-
  A reader and a writer side by side; the law's works.
-/

namespace Go.Proofs.YtcdhakfmljjaoaaGreatDoor.fl
set_option maxRecDepth 100000
open Go.RowKit Go.Maps
set_option maxRecDepth 100000

section
variable {R : RP} {V : VP}
/-- A reader and a writer that were made behind w0. -/
def Two (R : RP) (V : VP) (w0 w : World) (a : Addr) (b : List UInt8) (p : Nat) (a2 : Addr) (L : List Int) : Prop :=
  ∃ S T, R w a b p S ∧ V w a2 L T ∧ (∀ i, S i → w0.heap.size ≤ i ∧ ¬ T i) ∧ (∀ i, T i → w0.heap.size ≤ i) ∧ Fr (fun _ => False) w0 w
theorem Two.still (HP : FlowP R V) {w0 w w' : World} {a : Addr} {b : List UInt8} {p : Nat} {a2 : Addr} {L : List Int} (h : Two R V w0 w a b p a2 L) (hF : Fr (fun _ => False) w w') : Two R V w0 w' a b p a2 L := by
  obtain ⟨S, T, h1, h2, h3, h4, h5⟩ := h
  exact ⟨S, T, HP.r_keep h1 hF (fun _ _ e => e), HP.v_keep h2 hF (fun _ _ e => e), h3, h4, h5.trans hF (fun _ _ e => e)⟩
theorem Two.r_aft (HP : FlowP R V) {w0 w w' : World} {a : Addr} {b : List UInt8} {p' : Nat} {a2 : Addr} {L : List Int} {S T : Nat → Prop} (h2 : V w a2 L T) (h3 : ∀ i, S i → w0.heap.size ≤ i ∧ ¬ T i) (h4 : ∀ i, T i → w0.heap.size ≤ i) (h5 : Fr (fun _ => False) w0 w) (h : RAft R w a b S p' w') : Two R V w0 w' a b p' a2 L := by
  obtain ⟨S', g1, g2, g3⟩ := h
  refine ⟨S', T, g1, HP.v_keep h2 g3 (fun i ht hs => (h3 i hs).2 ht), fun i hi => ?_, h4, h5.trans g3 (fun i hi hs => by have := (h3 i hs).1; omega)⟩
  rcases g2 i hi with hs | hs
  · exact h3 i hs
  · exact ⟨Nat.le_trans h5.size hs, fun ht => by have := (HP.v_in h2).1 i ht; omega⟩
theorem Two.v_aft (HP : FlowP R V) {w0 w w' : World} {a : Addr} {b : List UInt8} {p : Nat} {a2 : Addr} {L' : List Int} {S T : Nat → Prop} (h1 : R w a b p S) (h3 : ∀ i, S i → w0.heap.size ≤ i ∧ ¬ T i) (h4 : ∀ i, T i → w0.heap.size ≤ i) (h5 : Fr (fun _ => False) w0 w) (h : VAft V w a2 T L' w') : Two R V w0 w' a b p a2 L' := by
  obtain ⟨T', g1, g2, g3⟩ := h
  refine ⟨S, T', HP.r_keep h1 g3 (fun i hs => (h3 i hs).2), g1, fun i hi => ⟨(h3 i hi).1, fun ht => ?_⟩, fun i hi => ?_, h5.trans g3 (fun i hi ht => by have := h4 i ht; omega)⟩
  · rcases g2 i ht with e | e
    · exact (h3 i hi).2 e
    · have := (HP.r_in h1).1 i hi
      omega
  · rcases g2 i hi with e | e
    · exact h4 i e
    · exact Nat.le_trans h5.size e
theorem Two.take (HP : FlowP R V) {w0 w : World} {a : Addr} {b : List UInt8} {p : Nat} {a2 : Addr} {L : List Int} (h : Two R V w0 w a b p a2 L) (n : Int) (hn : Big n) : Calls Tryz.prog 75 #[.pointer (some a), .int .i64 n] w fun e w' => e = .returned (.tuple #[.int .i64 (takeV (bitsOf b) p n).1, .int .i64 (takeV (bitsOf b) p n).2]) ∧ Two R V w0 w' a b (takeA (bitsOf b) p n) a2 L := by
  obtain ⟨S, T, h1, h2, h3, h4, h5⟩ := h
  exact (HP.take w a b p S n h1 hn).mono fun e w' g => ⟨g.1, Two.r_aft HP h2 h3 h4 h5 g.2⟩
theorem Two.at_ (HP : FlowP R V) {w0 w : World} {a : Addr} {b : List UInt8} {p : Nat} {a2 : Addr} {L : List Int} (h : Two R V w0 w a b p a2 L) : Calls Tryz.prog 55 #[.pointer (some a)] w fun e w' => e = .returned (.int .i64 (p : Int)) ∧ Two R V w0 w' a b p a2 L := by
  obtain ⟨S, T, h1, h2, h3, h4, h5⟩ := id h
  exact (HP.at_ w a b p S h1).mono fun e w' g => ⟨g.1, h.still HP g.2.fr⟩
theorem Two.put (HP : FlowP R V) {w0 w : World} {a : Addr} {b : List UInt8} {p : Nat} {a2 : Addr} {L : List Int} (h : Two R V w0 w a b p a2 L) (n k : Int) (hL : L.length ≤ 4000000) (hn : Big n) (hk : Big k) : Calls Tryz.prog 100 #[.pointer (some a2), .int .i64 n, .int .i64 k] w fun e w' => e = .returned (.int .i64 (putZ n k)) ∧ Two R V w0 w' a b p a2 (putL' L n k) := by
  obtain ⟨S, T, h1, h2, h3, h4, h5⟩ := h
  exact (HP.put w a2 L T n k h2 hL hn hk).mono fun e w' g => ⟨g.1, Two.v_aft HP h1 h3 h4 h5 g.2⟩
theorem Two.code (HP : FlowP R V) {w0 w : World} {a : Addr} {b : List UInt8} {p : Nat} {a2 : Addr} {L : List Int} (h : Two R V w0 w a b p a2 L) (n k : Int) (hL : L.length ≤ 4000000) (hn : Big n) (hk : Big k) : Calls Tryz.prog 123 #[.pointer (some a2), .int .i64 n, .int .i64 k] w fun e w' => e = .returned (.int .i64 (putZ n k)) ∧ Two R V w0 w' a b p a2 (codeL L n k) := by
  obtain ⟨S, T, h1, h2, h3, h4, h5⟩ := h
  exact (HP.code w a2 L T n k h2 hL hn hk).mono fun e w' g => ⟨g.1, Two.v_aft HP h1 h3 h4 h5 g.2⟩
theorem Two.all (HP : FlowP R V) {w0 w : World} {a : Addr} {b : List UInt8} {p : Nat} {a2 : Addr} {L : List Int} (h : Two R V w0 w a b p a2 L) (hL : L.length ≤ 4000000) : Calls Tryz.prog 84 #[.pointer (some a2)] w fun e w' => ∃ A cap, e = .returned (.slice A (packI L).length cap) ∧ Rd w' w'.heap.size A (packI L) ∧ Two R V w0 w' a b p a2 L := by
  obtain ⟨S, T, h1, h2, h3, h4, h5⟩ := h
  refine (HP.all w a2 L T h2 hL).mono fun e w' g => ?_
  obtain ⟨A, cap, T', rfl, ho, g1, g2, g3⟩ := g
  exact ⟨A, cap, rfl, Own.rd ho, Two.v_aft HP h1 h3 h4 h5 ⟨T', g1, fun i hi => (g2 i hi).1, g3⟩⟩

theorem lit_rd (w : World) (x : List UInt8) (cs : Array Value) (h : cs = (bs x).toArray) : Rd (w.alloc (.cells cs 5)) (w.alloc (.cells cs 5)).heap.size (some ⟨w.heap.size, 0, none⟩) x := fun _ => ⟨w.heap.size, 0, rfl, by rw [World.size_alloc]; omega, fun j y hj => by
  rw [cellAt (heap_alloc_new _ _), Nat.zero_add, h, List.getElem?_toArray, bs_get, hj]
  rfl⟩

end
end Go.Proofs.YtcdhakfmljjaoaaGreatDoor.fl

/-
  The program's reader beside the document's.
-/
namespace Go.Proofs.YtcdhakfmljjaoaaGreatDoor.fl
set_option maxRecDepth 100000
open Go.RowKit Go.Maps
set_option maxRecDepth 100000

section
variable {R : RP} {V : VP}
variable {w0 w w' : World} {ob lo yb p q : Nat} {Ao : Option Addr} {a : Addr} {b : List UInt8} {X : Nat → Prop}
/-- What stays in the law's other blocks. -/
def Kp (X : Nat → Prop) (w w' : World) : Prop := ∀ i, X i → w'.heap[i]? = w.heap[i]?
end
end Go.Proofs.YtcdhakfmljjaoaaGreatDoor.fl

/-
  Calls that come in; helpers.
-/


namespace Go.Proofs.YtcdhakfmljjaoaaGreatDoor.fl
set_option maxRecDepth 100000
open Go.RowKit Go.Maps
set_option maxRecDepth 100000

/-- A call of the law's: what it does, its numbers, its bytes. -/
structure AF where
  do_ : Int
  n : Int
  bits : Int
  A : Option Addr
  cap : Nat
  d : List UInt8
structure AFok (w : World) (B : Nat) (x : AF) : Prop where
  n : Big x.n
  bits : Big x.bits
  rd : Rd w B x.A x.d
  none_ : x.A = none → x.cap = 0
  cap : x.d.length ≤ x.cap
  len : x.d.length ≤ 140737488351232
/-- Calls that come in. -/
structure ActsF (w : World) (B : Nat) (A : Option Addr) (l : List AF) : Prop where
  cells : l ≠ [] → ∃ blk off, A = some ⟨blk, off, none⟩ ∧ blk < B ∧ ∀ i x, l[i]? = some x → w.cell? ⟨blk, off + i * 4, none⟩ = some (.int .i64 x.do_) ∧ w.cell? ⟨blk, off + i * 4 + 1, none⟩ = some (.int .i64 x.n) ∧ w.cell? ⟨blk, off + i * 4 + 2, none⟩ = some (.int .i64 x.bits) ∧ w.cell? ⟨blk, off + i * 4 + 3, none⟩ = some (.slice x.A x.d.length x.cap)
  ok : ∀ x ∈ l, AFok w B x
  len : l.length ≤ 9223372036854775807
theorem ActsF.at_ {w w' : World} {B : Nat} {A : Option Addr} {l : List AF} {S : Nat → Prop} (h : ActsF w B A l) {k : Nat} {x : AF} (hx : l[k]? = some x) (hF : Fr S w w') (hB : B ≤ w.heap.size) (hS : ∀ i, i < B → ¬ S i) : ∃ blk off, A = some ⟨blk, off, none⟩ ∧ w'.cell? ⟨blk, off + k * 4, none⟩ = some (.int .i64 x.do_) ∧ w'.cell? ⟨blk, off + k * 4 + 1, none⟩ = some (.int .i64 x.n) ∧ w'.cell? ⟨blk, off + k * 4 + 2, none⟩ = some (.int .i64 x.bits) ∧ w'.cell? ⟨blk, off + k * 4 + 3, none⟩ = some (.slice x.A x.d.length x.cap) := by
  obtain ⟨blk, off, e, hb, hc⟩ := h.cells (by rintro rfl; simp at hx)
  have kk : ∀ o v, w.cell? ⟨blk, o, none⟩ = some v → w'.cell? ⟨blk, o, none⟩ = some v := fun o v hv => (World.cell?_of_block (w := w) (w' := w') (a := ⟨blk, o, none⟩) (hF.block blk (by omega) (hS blk hb))).trans hv
  obtain ⟨c0, c1, c2, c3⟩ := hc k x hx
  exact ⟨blk, off, e, kk _ _ c0, kk _ _ c1, kk _ _ c2, kk _ _ c3⟩
theorem quiet_calm2 {f : FuncId} {args : Array Value} {w : World} {n : Nat} {v : Value} (h : Calls Tryz.prog f args (w.drewN n) fun e w' => e = .returned v ∧ Calm (w.drewN n) w') :
    Calls Tryz.prog f args (w.drewN n) fun e w'' => e = .returned v ∧ ∃ m, w'' = w.drewN m :=
  h.mono fun _ _ ⟨he, m, hm⟩ => ⟨he, n + m, by rw [hm, World.drewN_drewN]⟩
theorem bytesV_len {L : List Int} {p : Nat} {n : Int} (h : L.length ≤ 100000000) : (bytesV L p n).1.length ≤ 12500000 := by
  unfold bytesV
  by_cases h1 : n < 0 ∨ p % 8 ≠ 0
  · rw [if_pos h1]; simp
  · rw [if_neg h1]
    by_cases h2 : (((L.length - p) / 8 : Nat) : Int) < n
    · rw [if_pos h2]; simp
    · rw [if_neg h2, packI_length, List.length_take, List.length_drop]
      omega
theorem own_kp {w w' : World} {base : Nat} {v : Value} {l : List UInt8} (h : Own w base v l) (hk : ∀ g, v.ownBlock = some g → w'.heap[g]? = w.heap[g]?) : Own w' base v l := by
  obtain ⟨h1, h2⟩ := h
  refine ⟨h1, ?_⟩
  rcases h2 with h2 | ⟨g, cap, cur, hv, hg, hh, r⟩
  · exact Or.inl h2
  · exact Or.inr ⟨g, cap, cur, hv, hg, (hk g (by rw [hv]; rfl)).trans hh, r⟩

theorem own_cap2 {w : World} {base n cap size : Nat} {t : TypeId} {A : Option Addr} {xs : List Value} (h : w.ownsRow base t size (.slice A n cap) n xs) : (A = none → cap = 0) ∧ n ≤ cap := by
  rcases h.2 with ⟨e, h0⟩ | ⟨g, cap', cur, e, hg, hh, hn, _⟩
  · cases e
    exact ⟨fun _ => rfl, Nat.le_refl _⟩
  · cases e
    exact ⟨fun e => (by cases e), hn⟩
theorem own_capI {w : World} {base cap : Nat} {A : Option Addr} {l : List Int} (h : OwnI w base (.slice A l.length cap) l) : l.length ≤ cap := (own_cap2 h).2
theorem ownI_rdT {w : World} {base cap : Nat} {A : Option Addr} {l : List Int} (h : OwnI w base (.slice A l.length cap) l) : RdT w base w.heap.size A l := fun hne => by
  obtain ⟨g, e, h1, h2, hc⟩ := h.cell hne
  exact ⟨g, 0, e, h1, h2, fun j x hj => by rw [Nat.zero_add]; exact hc j x hj⟩

end Go.Proofs.YtcdhakfmljjaoaaGreatDoor.fl

/-
  The program's writer beside the law's list of bits.
-/
namespace Go.Proofs.YtcdhakfmljjaoaaGreatDoor.fl
set_option maxRecDepth 100000
open Go.RowKit Go.Maps
set_option maxRecDepth 100000

section
variable {R : RP} {V : VP}
/-- The program's writer has the bits L; X: blocks of the law's. -/
structure JW (V : VP) (w0 : World) (a : Addr) (X : Nat → Prop) (w : World) (L : List Int) : Prop where
  v : ∃ S, V w a L S ∧ ∀ i, S i → w0.heap.size ≤ i ∧ ¬ X i
  fr : Fr (fun _ => False) w0 w
  x : ∀ i, X i → w0.heap.size ≤ i ∧ i < w.heap.size
variable {w0 w w' : World} {a : Addr} {X : Nat → Prop} {L : List Int}
theorem JW.xaft (HP : FlowP R V) (h : JW V w0 a X w L) (hF : Fr X w w') : JW V w0 a X w' L := by
  obtain ⟨S, g1, g2⟩ := h.v
  exact ⟨⟨S, HP.v_keep g1 hF (fun i hs e => (g2 i hs).2 e), g2⟩, h.fr.trans hF (fun i hi e => by have := (h.x i e).1; omega), fun i hi => ⟨(h.x i hi).1, Nat.lt_of_lt_of_le (h.x i hi).2 hF.size⟩⟩
theorem JW.still (HP : FlowP R V) (h : JW V w0 a X w L) (hF : Fr (fun _ => False) w w') : JW V w0 a X w' L := h.xaft HP (hF.mono (fun _ _ e => e.elim))
theorem JW.less {Y : Nat → Prop} (h : JW V w0 a X w L) (hY : ∀ i, Y i → X i) : JW V w0 a Y w L := by
  obtain ⟨S, g1, g2⟩ := h.v
  exact ⟨⟨S, g1, fun i hs => ⟨(g2 i hs).1, fun e => (g2 i hs).2 (hY i e)⟩⟩, h.fr, fun i e => h.x i (hY i e)⟩
/-- New blocks are the law's, too. -/
theorem JW.fresh (HP : FlowP R V) (h : JW V w0 a X w L) (hF : Fr X w w') : JW V w0 a (fun i => X i ∨ (w.heap.size ≤ i ∧ i < w'.heap.size)) w' L := by
  have hj := h.xaft HP hF
  obtain ⟨S, g1, g2⟩ := h.v
  refine ⟨⟨S, HP.v_keep g1 hF (fun i hs e => (g2 i hs).2 e), fun i hs => ⟨(g2 i hs).1, fun e => ?_⟩⟩, hj.fr, fun i e => ?_⟩
  · rcases e with e | e
    · exact (g2 i hs).2 e
    · have := (HP.v_in g1).1 i hs
      omega
  · rcases e with e | e
    · exact hj.x i e
    · exact ⟨Nat.le_trans h.fr.size e.1, e.2⟩
theorem JW.aft {S : Nat → Prop} {L' : List Int} (h : JW V w0 a X w L) (hS : ∀ i, S i → w0.heap.size ≤ i ∧ ¬ X i) (g : VAft V w a S L' w') : Kp X w w' ∧ JW V w0 a X w' L' := by
  obtain ⟨S', g1, g2, g3⟩ := g
  refine ⟨fun i hi => g3.block i (h.x i hi).2 (fun hs => (hS i hs).2 hi), ⟨⟨S', g1, fun i hi => ?_⟩, h.fr.trans g3 (fun i hi hs => by have := (hS i hs).1; omega), fun i hi => ⟨(h.x i hi).1, Nat.lt_of_lt_of_le (h.x i hi).2 g3.size⟩⟩⟩
  rcases g2 i hi with hs | hs
  · exact hS i hs
  · exact ⟨Nat.le_trans h.fr.size hs, fun e => by have := (h.x i e).2; omega⟩
theorem JW.put (HP : FlowP R V) (h : JW V w0 a X w L) (n k : Int) (hL : L.length ≤ 4000000) (hn : Big n) (hk : Big k) : Calls Tryz.prog 100 #[.pointer (some a), .int .i64 n, .int .i64 k] w fun e w' => e = .returned (.int .i64 (putZ n k)) ∧ Kp X w w' ∧ JW V w0 a X w' (putL' L n k) := by
  obtain ⟨S, g1, g2⟩ := h.v
  exact (HP.put w a L S n k g1 hL hn hk).mono fun _ _ g => ⟨g.1, h.aft g2 g.2⟩
theorem JW.code (HP : FlowP R V) (h : JW V w0 a X w L) (n k : Int) (hL : L.length ≤ 4000000) (hn : Big n) (hk : Big k) : Calls Tryz.prog 123 #[.pointer (some a), .int .i64 n, .int .i64 k] w fun e w' => e = .returned (.int .i64 (putZ n k)) ∧ Kp X w w' ∧ JW V w0 a X w' (codeL L n k) := by
  obtain ⟨S, g1, g2⟩ := h.v
  exact (HP.code w a L S n k g1 hL hn hk).mono fun _ _ g => ⟨g.1, h.aft g2 g.2⟩
theorem JW.all (HP : FlowP R V) (h : JW V w0 a X w L) (hL : L.length ≤ 4000000) : Calls Tryz.prog 84 #[.pointer (some a)] w fun e w' => ∃ A cap, e = .returned (.slice A (packI L).length cap) ∧ Own w' w.heap.size (.slice A (packI L).length cap) (packI L) ∧ Kp X w w' ∧ JW V w0 a (fun i => X i ∨ (Value.slice A (packI L).length cap).ownBlock = some i) w' L := by
  obtain ⟨S, g1, g2⟩ := h.v
  refine (HP.all w a L S g1 hL).mono fun _ _ g => ?_
  obtain ⟨A, cap, S', rfl, ho, k1, k2, k3⟩ := g
  obtain ⟨hk, hj⟩ := h.aft g2 ⟨S', k1, fun i hi => (k2 i hi).1, k3⟩
  refine ⟨A, cap, rfl, ho, hk, ⟨⟨S', k1, fun i hi => ?_⟩, hj.fr, fun i hi => ?_⟩⟩
  · rcases (k2 i hi).1 with hs | hs
    · exact ⟨(g2 i hs).1, fun e => e.elim (g2 i hs).2 (k2 i hi).2⟩
    · exact ⟨Nat.le_trans h.fr.size hs, fun e => e.elim (fun e => by have := (h.x i e).2; omega) (k2 i hi).2⟩
  · rcases hi with e | e
    · exact hj.x i e
    · have hl := World.ownsRow.lt ho i e
      have := h.fr.size
      omega
theorem JW.bits (HP : FlowP R V) (h : JW V w0 a X w L) : AllBit L := by
  obtain ⟨S, g1, _⟩ := h.v
  exact (HP.v_in g1).2
theorem ownI_kp {B : Nat} {v : Value} {l : List Int} (h : OwnI w B v l) (hk : ∀ g, v.ownBlock = some g → w'.heap[g]? = w.heap[g]?) : OwnI w' B v l := by
  obtain ⟨h1, h2⟩ := h
  refine ⟨h1, ?_⟩
  rcases h2 with h2 | ⟨g, cap, cur, hv, hg, hh, r⟩
  · exact Or.inl h2
  · exact Or.inr ⟨g, cap, cur, hv, hg, (hk g (by rw [hv]; rfl)).trans hh, r⟩
end
end Go.Proofs.YtcdhakfmljjaoaaGreatDoor.fl

/-
  FlowPieces over what is asked of the program's readers.
-/
namespace Go.Proofs.YtcdhakfmljjaoaaGreatDoor.fl
set_option maxRecDepth 100000
open Go.RowKit Go.Maps
set_option maxRecDepth 100000

section
variable {R : RP} {V : VP}
/-- Two readers that were made behind w0. -/
def RR (R : RP) (w0 w : World) (a1 : Addr) (b1 : List UInt8) (p1 : Nat) (a2 : Addr) (b2 : List UInt8) (p2 : Nat) : Prop :=
  ∃ S T, R w a1 b1 p1 S ∧ R w a2 b2 p2 T ∧ (∀ i, S i → w0.heap.size ≤ i ∧ ¬ T i) ∧ (∀ i, T i → w0.heap.size ≤ i) ∧ Fr (fun _ => False) w0 w
theorem RR.swap {w0 w : World} {a1 : Addr} {b1 : List UInt8} {p1 : Nat} {a2 : Addr} {b2 : List UInt8} {p2 : Nat} (h : RR R w0 w a1 b1 p1 a2 b2 p2) : RR R w0 w a2 b2 p2 a1 b1 p1 := by
  obtain ⟨S, T, h1, h2, h3, h4, h5⟩ := h
  exact ⟨T, S, h2, h1, fun i hi => ⟨h4 i hi, fun hs => (h3 i hs).2 hi⟩, fun i hi => (h3 i hi).1, h5⟩
theorem RR.still (HP : FlowP R V) {w0 w w' : World} {a1 : Addr} {b1 : List UInt8} {p1 : Nat} {a2 : Addr} {b2 : List UInt8} {p2 : Nat} (h : RR R w0 w a1 b1 p1 a2 b2 p2) (hF : Fr (fun _ => False) w w') : RR R w0 w' a1 b1 p1 a2 b2 p2 := by
  obtain ⟨S, T, h1, h2, h3, h4, h5⟩ := h
  exact ⟨S, T, HP.r_keep h1 hF (fun _ _ e => e), HP.r_keep h2 hF (fun _ _ e => e), h3, h4, h5.trans hF (fun _ _ e => e)⟩
theorem RR.aft (HP : FlowP R V) {w0 w w' : World} {a1 : Addr} {b1 : List UInt8} {p' : Nat} {a2 : Addr} {b2 : List UInt8} {p2 : Nat} {S T : Nat → Prop} (h2 : R w a2 b2 p2 T) (h3 : ∀ i, S i → w0.heap.size ≤ i ∧ ¬ T i) (h4 : ∀ i, T i → w0.heap.size ≤ i) (h5 : Fr (fun _ => False) w0 w) (h : RAft R w a1 b1 S p' w') : RR R w0 w' a1 b1 p' a2 b2 p2 := by
  obtain ⟨S', g1, g2, g3⟩ := h
  refine ⟨S', T, g1, HP.r_keep h2 g3 (fun i ht hs => (h3 i hs).2 ht), fun i hi => ?_, h4, h5.trans g3 (fun i hi hs => by have := (h3 i hs).1; omega)⟩
  rcases g2 i hi with hs | hs
  · exact h3 i hs
  · exact ⟨Nat.le_trans h5.size hs, fun ht => by have := (HP.r_in h2).1 i ht; omega⟩
theorem RR.take (HP : FlowP R V) {w0 w : World} {a1 : Addr} {b1 : List UInt8} {p1 : Nat} {a2 : Addr} {b2 : List UInt8} {p2 : Nat} (h : RR R w0 w a1 b1 p1 a2 b2 p2) (n : Int) (hn : Big n) : Calls Tryz.prog 75 #[.pointer (some a1), .int .i64 n] w fun e w' => e = .returned (.tuple #[.int .i64 (takeV (bitsOf b1) p1 n).1, .int .i64 (takeV (bitsOf b1) p1 n).2]) ∧ RR R w0 w' a1 b1 (takeA (bitsOf b1) p1 n) a2 b2 p2 := by
  obtain ⟨S, T, h1, h2, h3, h4, h5⟩ := h
  exact (HP.take w a1 b1 p1 S n h1 hn).mono fun e w' g => ⟨g.1, RR.aft HP h2 h3 h4 h5 g.2⟩
theorem RR.at_ (HP : FlowP R V) {w0 w : World} {a1 : Addr} {b1 : List UInt8} {p1 : Nat} {a2 : Addr} {b2 : List UInt8} {p2 : Nat} (h : RR R w0 w a1 b1 p1 a2 b2 p2) : Calls Tryz.prog 55 #[.pointer (some a1)] w fun e w' => e = .returned (.int .i64 (p1 : Int)) ∧ RR R w0 w' a1 b1 p1 a2 b2 p2 := by
  obtain ⟨S, T, h1, h2, h3, h4, h5⟩ := id h
  exact (HP.at_ w a1 b1 p1 S h1).mono fun e w' g => ⟨g.1, h.still HP g.2.fr⟩

/-- Taking in two pieces (mathematics). -/
theorem takeV_in {L : List Int} {p n : Nat} (hn : n ≤ 24) : takeV L p (n : Int) = (if (L.length : Int) - p < n then (0, 7) else (numI ((L.drop p).take n), 0)) ∧ takeA L p (n : Int) = (if (L.length : Int) - p < n then p else p + n) := by
  have h : ¬ ((n : Int) < 0 ∨ 24 < (n : Int)) := by omega
  exact ⟨by unfold takeV; rw [if_neg h]; rfl, by unfold takeA; rw [if_neg h]; rfl⟩
theorem num_pieces {L : List Int} {p n m : Nat} (h : p + n ≤ L.length) : numI ((L.drop p).take (n + m)) = numI ((L.drop p).take n) + 2 ^ n * numI ((L.drop (p + n)).take m) := by
  rw [List.take_add, numI_append, List.drop_drop]
  congr 2
  rw [List.length_take, List.length_drop]
  congr 1
  omega

end
end Go.Proofs.YtcdhakfmljjaoaaGreatDoor.fl

/-
  FlowBack: its mathematics; a reader, a writer and the law's own blocks.
-/
namespace Go.Proofs.YtcdhakfmljjaoaaGreatDoor.fl
set_option maxRecDepth 100000
open Go.RowKit Go.Maps
set_option maxRecDepth 100000

/-- The bits of a call that was taken. -/
def encF (x : AF) : List Int := if amongZ x.do_ 2 = 0 then lowL x.n x.bits else (lowL x.n x.bits).reverse
def encT (T : List AF) : List Int := T.flatMap encF
theorem encT_snoc (T : List AF) (x : AF) : encT (T ++ [x]) = encT T ++ encF x := by unfold encT; rw [List.flatMap_append]; simp
theorem encF_len {x : AF} {K : Nat} (hl : lowB x.n x.bits = true) (hk : x.bits = K) : (encF x).length = K ∧ K ≤ 24 := by
  have hm : mayB x.n x.bits = true := by unfold lowB at hl; exact (Bool.and_eq_true_iff.1 hl).1
  have h3 := (mayB_iff _ _).1 hm
  have e : (lowL x.n x.bits).length = K := by
    unfold lowL
    rw [if_pos hm, lowI_length, hk]
    omega
  unfold encF
  refine ⟨?_, by omega⟩
  by_cases h : amongZ x.do_ 2 = 0
  · rw [if_pos h, e]
  · rw [if_neg h, List.length_reverse, e]
theorem encT_len : ∀ (T : List AF), (encT T).length ≤ 24 * T.length
  | [] => by simp [encT]
  | x :: r => by
    have ih := encT_len r
    unfold encT at *
    rw [List.flatMap_cons, List.length_append, List.length_cons]
    have : (encF x).length ≤ 24 := by
      unfold encF
      have := lowL_len x.n x.bits
      by_cases h : amongZ x.do_ 2 = 0
      · rw [if_pos h]; exact this
      · rw [if_neg h, List.length_reverse]; exact this
    omega
/-- Where a call's bits stand. -/
theorem enc_drop {T : List AF} {j : Nat} {x : AF} (h : T[j]? = some x) : encT T = encT (T.take j) ++ (encF x ++ encT (T.drop (j + 1))) := by
  obtain ⟨h1, h2⟩ := List.getElem?_eq_some_iff.1 h
  have e : T = T.take j ++ (x :: T.drop (j + 1)) := by rw [← h2, ← List.drop_eq_getElem_cons h1, List.take_append_drop]
  have : encT T = encT (T.take j ++ (x :: T.drop (j + 1))) := by rw [← e]
  rw [this]
  unfold encT
  rw [List.flatMap_append, List.flatMap_cons]
theorem enc_take_succ {T : List AF} {j : Nat} {x : AF} (h : T[j]? = some x) : encT (T.take (j + 1)) = encT (T.take j) ++ encF x := by
  rw [List.take_add_one, h]
  exact encT_snoc _ _
/-- A number of bits that stands there is taken. -/
theorem take_mid {A B C : List Int} {K : Nat} (hk : K ≤ 24) (hb : B.length = K) : takeV (A ++ (B ++ C)) A.length (K : Int) = (numI B, 0) ∧ takeA (A ++ (B ++ C)) A.length (K : Int) = A.length + K := by
  have hl : ¬ (((A ++ (B ++ C)).length : Int) - A.length < K) := by rw [List.length_append, List.length_append]; omega
  have ht : ((A ++ (B ++ C)).drop A.length).take K = B := by rw [List.drop_left, ← hb, List.take_left]
  have h1 := (takeV_in (L := A ++ (B ++ C)) (p := A.length) hk).1
  have h2 := (takeV_in (L := A ++ (B ++ C)) (p := A.length) hk).2
  rw [if_neg hl] at h1 h2
  rw [ht] at h1
  exact ⟨h1, h2⟩
/-- A number that goes into so many bits is their worth. -/
theorem low_back {n : Int} {K : Nat} (hl : lowB n K = true) : numI (lowL n K) = n := by
  unfold lowB at hl
  obtain ⟨hm, hd⟩ := Bool.and_eq_true_iff.1 hl
  have h3 := (mayB_iff _ _).1 hm
  have hd2 : n / 2 ^ K = 0 := by simpa using hd
  unfold lowL
  rw [if_pos hm, Int.toNat_natCast, numI_low]
  have hpos : (0 : Int) < 2 ^ K := Int.pow_pos (by omega)
  have := Int.emod_add_mul_ediv n (2 ^ K)
  rw [hd2, Int.mul_zero, Int.add_zero] at this
  exact this
/-- Of a number, its first k bits out of K, the highest first. -/
def hiV (n : Int) (K k : Nat) : Int := n / 2 ^ (K - k)
theorem hiV_step {n : Int} {K k : Nat} (hk : k < K) : hiV n K (k + 1) = 2 * hiV n K k + n / 2 ^ (K - 1 - k) % 2 := by
  unfold hiV
  have e : K - k = (K - (k + 1)) + 1 := by omega
  rw [e, Int.pow_succ, ← Int.ediv_ediv_of_nonneg (Int.pow_nonneg (by omega)), show K - 1 - k = K - (k + 1) by omega]
  omega
theorem lowI_get : ∀ (K : Nat) (n : Int) (i : Nat), i < K → (lowI n K)[i]? = some (n / 2 ^ i % 2)
  | 0, _, _, h => by omega
  | K + 1, n, 0, _ => by simp [lowI]
  | K + 1, n, i + 1, h => by
    rw [lowI, List.getElem?_cons_succ, lowI_get K (n / 2) i (by omega), ediv_pow_succ]
theorem rev_get {n : Int} {K k : Nat} (hk : k < K) : ((lowI n K).reverse)[k]? = some (n / 2 ^ (K - 1 - k) % 2) := by
  rw [List.getElem?_reverse (by rw [lowI_length]; exact hk), lowI_length]
  exact lowI_get K n (K - 1 - k) (by omega)
/-- One bit that stands there is taken. -/
theorem take_bit {A B C : List Int} {k : Nat} {x : Int} (h : B[k]? = some x) : takeV (A ++ (B ++ C)) (A.length + k) 1 = (x, 0) ∧ takeA (A ++ (B ++ C)) (A.length + k) 1 = A.length + (k + 1) := by
  obtain ⟨h1, h2⟩ := List.getElem?_eq_some_iff.1 h
  have e : A ++ (B ++ C) = (A ++ B.take k) ++ ([x] ++ (B.drop (k + 1) ++ C)) := by
    have : B = B.take k ++ (x :: B.drop (k + 1)) := by rw [← h2, ← List.drop_eq_getElem_cons h1, List.take_append_drop]
    conv => lhs; rw [this]
    simp
  have hl : (A ++ B.take k).length = A.length + k := by rw [List.length_append, List.length_take]; omega
  have ht := take_mid (A := A ++ B.take k) (B := [x]) (C := B.drop (k + 1) ++ C) (K := 1) (by omega) rfl
  rw [hl, ← e] at ht
  refine ⟨?_, by rw [← Nat.add_assoc]; exact ht.2⟩
  have := ht.1
  simpa [numI] using this

section
variable {R : RP} {V : VP}
/-- A reader and a writer that were made behind w0, and blocks of the law's. -/
structure JB (R : RP) (V : VP) (w0 : World) (a : Addr) (b : List UInt8) (a2 : Addr) (L : List Int) (X : Nat → Prop) (w : World) (p : Nat) : Prop where
  rv : ∃ S T, R w a b p S ∧ V w a2 L T ∧ (∀ i, S i → w0.heap.size ≤ i ∧ ¬ T i ∧ ¬ X i) ∧ (∀ i, T i → w0.heap.size ≤ i ∧ ¬ X i)
  fr : Fr (fun _ => False) w0 w
  x : ∀ i, X i → w0.heap.size ≤ i ∧ i < w.heap.size
variable {w0 w w' : World} {a a2 : Addr} {b : List UInt8} {L : List Int} {X : Nat → Prop} {p : Nat}
theorem JB.still (HP : FlowP R V) (h : JB R V w0 a b a2 L X w p) (hF : Fr (fun _ => False) w w') : JB R V w0 a b a2 L X w' p := by
  obtain ⟨S, T, h1, h2, h3, h4⟩ := h.rv
  exact ⟨⟨S, T, HP.r_keep h1 hF (fun _ _ e => e), HP.v_keep h2 hF (fun _ _ e => e), h3, h4⟩, h.fr.trans hF (fun _ _ e => e), fun i hi => ⟨(h.x i hi).1, Nat.lt_of_lt_of_le (h.x i hi).2 hF.size⟩⟩
theorem JB.less {Y : Nat → Prop} (h : JB R V w0 a b a2 L X w p) (hY : ∀ i, Y i → X i) : JB R V w0 a b a2 L Y w p := by
  obtain ⟨S, T, h1, h2, h3, h4⟩ := h.rv
  exact ⟨⟨S, T, h1, h2, fun i hi => ⟨(h3 i hi).1, (h3 i hi).2.1, fun e => (h3 i hi).2.2 (hY i e)⟩, fun i hi => ⟨(h4 i hi).1, fun e => (h4 i hi).2 (hY i e)⟩⟩, h.fr, fun i e => h.x i (hY i e)⟩
theorem JB.fresh (HP : FlowP R V) (h : JB R V w0 a b a2 L X w p) (hF : Fr (fun _ => False) w w') : JB R V w0 a b a2 L (fun i => X i ∨ (w.heap.size ≤ i ∧ i < w'.heap.size)) w' p := by
  obtain ⟨S, T, h1, h2, h3, h4⟩ := h.rv
  refine ⟨⟨S, T, HP.r_keep h1 hF (fun _ _ e => e), HP.v_keep h2 hF (fun _ _ e => e), fun i hi => ⟨(h3 i hi).1, (h3 i hi).2.1, fun e => ?_⟩, fun i hi => ⟨(h4 i hi).1, fun e => ?_⟩⟩, h.fr.trans hF (fun _ _ e => e), fun i e => ?_⟩
  · rcases e with e | e
    · exact (h3 i hi).2.2 e
    · have := (HP.r_in h1).1 i hi
      omega
  · rcases e with e | e
    · exact (h4 i hi).2 e
    · have := (HP.v_in h2).1 i hi
      omega
  · rcases e with e | e
    · exact ⟨(h.x i e).1, Nat.lt_of_lt_of_le (h.x i e).2 hF.size⟩
    · exact ⟨Nat.le_trans h.fr.size e.1, e.2⟩
theorem JB.take (HP : FlowP R V) (h : JB R V w0 a b a2 L X w p) (n : Int) (hn : Big n) : Calls Tryz.prog 75 #[.pointer (some a), .int .i64 n] w fun e w' => e = .returned (.tuple #[.int .i64 (takeV (bitsOf b) p n).1, .int .i64 (takeV (bitsOf b) p n).2]) ∧ Kp X w w' ∧ JB R V w0 a b a2 L X w' (takeA (bitsOf b) p n) := by
  obtain ⟨S, T, h1, h2, h3, h4⟩ := h.rv
  refine (HP.take w a b p S n h1 hn).mono fun e w' g => ?_
  obtain ⟨he, S', g1, g2, g3⟩ := g
  refine ⟨he, fun i hi => g3.block i (h.x i hi).2 (fun hs => (h3 i hs).2.2 hi), ⟨⟨S', T, g1, HP.v_keep h2 g3 (fun i ht hs => (h3 i hs).2.1 ht), fun i hi => ?_, h4⟩, h.fr.trans g3 (fun i hi hs => by have := (h3 i hs).1; omega), fun i hi => ⟨(h.x i hi).1, Nat.lt_of_lt_of_le (h.x i hi).2 g3.size⟩⟩⟩
  rcases g2 i hi with hs | hs
  · exact h3 i hs
  · exact ⟨Nat.le_trans h.fr.size hs, fun ht => by have := (HP.v_in h2).1 i ht; omega, fun e => by have := (h.x i e).2; omega⟩
theorem JB.at_ (HP : FlowP R V) (h : JB R V w0 a b a2 L X w p) : Calls Tryz.prog 55 #[.pointer (some a)] w fun e w' => e = .returned (.int .i64 (p : Int)) ∧ JB R V w0 a b a2 L X w' p := by
  obtain ⟨S, T, h1, h2, h3, h4⟩ := h.rv
  exact (HP.at_ w a b p S h1).mono fun _ _ g => ⟨g.1, h.still HP g.2.fr⟩
end
end Go.Proofs.YtcdhakfmljjaoaaGreatDoor.fl

/-
  Bits of bytes one by one; bytes of bits as they grow (mathematics; for whatever program).
-/

namespace Go.Proofs.YtcdhakfmljjaoaaGreatDoor.fl
set_option maxRecDepth 100000
/-- A bit of a byte of bytes. -/
theorem bits_get {b : List UInt8} {j i : Nat} {x : UInt8} (h : b[j]? = some x) (hi : i < 8) : (bitsOf b)[8 * j + i]? = some ((x.toNat : Int) / 2 ^ i % 2) := by
  have hj := (List.getElem?_eq_some_iff.1 h).1
  have hx := (List.getElem?_eq_some_iff.1 h).2
  rw [← List.getElem?_drop, bitsOf_drop b j (by omega), List.drop_eq_getElem_cons hj, bitsOf_cons, hx, List.getElem?_append_left (by rw [lowI_length]; exact hi)]
  exact lowI_get 8 _ i hi
/-- .. by its place. -/
theorem bits_get' {b : List UInt8} {p : Nat} {x : UInt8} (h : b[p / 8]? = some x) : (bitsOf b)[p]? = some ((x.toNat : Int) / 2 ^ (p % 8) % 2) := by
  have := bits_get h (Nat.mod_lt p (by omega : 0 < 8))
  rwa [Nat.div_add_mod] at this
theorem pack_full {L d : List Int} (h : L.length % 8 = 0) : packI (L ++ d) = packI L ++ packI d := by
  obtain ⟨k, hk⟩ : ∃ k, L.length = 8 * k := ⟨L.length / 8, by omega⟩
  have e1 : packI L = packTo L k := by unfold packI; rw [show (L.length + 7) / 8 = k by omega]
  unfold packI at e1 ⊢
  rw [e1, List.length_append, show (L.length + d.length + 7) / 8 = k + (d.length + 7) / 8 by omega]
  unfold packTo
  rw [List.range_add, List.map_append, List.map_map]
  congr 1
  · refine List.map_congr_left fun i hi => ?_
    have hi := List.mem_range.1 hi
    rw [List.drop_append_of_le_length (by omega), List.take_append_of_le_length (by rw [List.length_drop]; omega)]
  · refine List.map_congr_left fun i _ => ?_
    show UInt8.ofNat (numI (((L ++ d).drop (8 * (k + i))).take 8)).toNat = _
    rw [show 8 * (k + i) = L.length + 8 * i by omega, ← List.drop_drop, List.drop_left]
/-- Whole bytes behind whole bytes. -/
theorem pack_bytes {L : List Int} (d : List UInt8) (h : L.length % 8 = 0) : packI (L ++ bitsOf d) = packI L ++ d := by rw [pack_full h, pack_bits]
/-- The bytes of bits: the whole ones, and what is left. -/
theorem pack_split (L : List Int) : ∃ M T, L = M ++ T ∧ M.length % 8 = 0 ∧ T.length = L.length % 8 ∧ packI L = packI M ++ packI T := by
  refine ⟨L.take (8 * (L.length / 8)), L.drop (8 * (L.length / 8)), (List.take_append_drop _ _).symm, by rw [List.length_take]; omega, by rw [List.length_drop]; omega, ?_⟩
  rw [← pack_full (by rw [List.length_take]; omega), List.take_append_drop]
theorem pack_one {T : List Int} (h0 : 0 < T.length) (h8 : T.length ≤ 8) : packI T = [UInt8.ofNat (numI T).toNat] := by
  unfold packI
  rw [show (T.length + 7) / 8 = 1 by omega]
  show [UInt8.ofNat (numI ((T.drop (8 * 0)).take 8)).toNat] = _
  rw [List.drop_zero, List.take_of_length_le h8]
/-- A bit in a new byte. -/
theorem pack_snoc0 {L : List Int} {x : Int} (h : L.length % 8 = 0) : packI (L ++ [x]) = packI L ++ [UInt8.ofNat x.toNat] := by
  rw [pack_full h, pack_one (T := [x]) (by simp) (by simp)]
  simp [numI]
/-- A bit in the last byte. -/
theorem pack_snoc {L : List Int} {x : Int} (h : L.length % 8 ≠ 0) : ∃ l z, packI L = l ++ [UInt8.ofNat (numI z).toNat] ∧ l.length = L.length / 8 ∧ z.length = L.length % 8 ∧ z.Sublist L ∧ packI (L ++ [x]) = l ++ [UInt8.ofNat (numI z + x * 2 ^ (L.length % 8)).toNat] := by
  obtain ⟨M, T, e, hM, hT, hp⟩ := pack_split L
  have hl : M.length + T.length = L.length := by rw [e, List.length_append]
  refine ⟨packI M, T, by rw [hp, pack_one (T := T) (by omega) (by omega)], by rw [packI_length]; omega, hT, by rw [e]; exact List.sublist_append_right _ _, ?_⟩
  conv => lhs; rw [e, List.append_assoc, pack_full hM, pack_one (T := T ++ [x]) (by simp) (by rw [List.length_append, List.length_singleton]; omega), numI_append]
  rw [hT, show numI [x] = x by simp [numI], Int.mul_comm]
/-- Noughts up to a whole byte change no byte. -/
theorem pack_pad (L : List Int) : packI (padL L) = packI L := by
  unfold padL
  by_cases h : L.length % 8 = 0
  · rw [h]; simp
  · obtain ⟨M, T, e, hM, hT, hp⟩ := pack_split L
    have hl : M.length + T.length = L.length := by rw [e, List.length_append]
    rw [hp]
    conv => lhs; rw [e, List.append_assoc, pack_full hM]
    rw [pack_one (T := T) (by omega) (by omega), pack_one (T := T ++ _) (by rw [List.length_append]; omega) (by rw [List.length_append, List.length_replicate, List.length_append]; omega), numI_append, numI_zeros, Int.mul_zero, Int.add_zero]
theorem padL_len (L : List Int) : (padL L).length = (L.length + 7) / 8 * 8 := by unfold padL; rw [List.length_append, List.length_replicate]; omega
end Go.Proofs.YtcdhakfmljjaoaaGreatDoor.fl

/-
  Plain mathematics of bits of bytes: numbers, maps, runs. No dump.
-/


namespace Go.Proofs.YtcdhakfmljjaoaaGreatDoor
set_option maxRecDepth 100000
open Go Go.RowKit

/-! ### numbers -/
def leNum : List UInt8 → Nat
  | [] => 0
  | b :: t => b.toNat + 256 * leNum t
theorem leNum_snoc (l : List UInt8) (b : UInt8) : leNum (l ++ [b]) = leNum l + 256 ^ l.length * b.toNat := by
  induction l with
  | nil => simp [leNum]
  | cons x t ih =>
    simp only [List.cons_append, leNum, ih, List.length_cons, Nat.pow_succ]
    rw [Nat.mul_add, Nat.mul_comm (256 ^ t.length) 256, Nat.mul_assoc, Nat.add_assoc]
theorem leNum_lt (l : List UInt8) : leNum l < 256 ^ l.length := by
  induction l with
  | nil => simp [leNum]
  | cons x t ih =>
    have := x.toNat_lt
    simp only [leNum, List.length_cons, Nat.pow_succ]
    omega
def numAt (l : List UInt8) (a k : Nat) : Nat := leNum ((l.drop a).take k)
theorem numAt_zero (l : List UInt8) (a : Nat) : numAt l a 0 = 0 := by simp [numAt, leNum]
theorem drop_take_succ (l : List UInt8) {a k : Nat} (h : a + k < l.length) : (l.drop a).take (k + 1) = (l.drop a).take k ++ [l[a + k]] := by
  rw [List.take_succ_eq_append_getElem (by rw [List.length_drop]; omega), List.getElem_drop]
theorem numAt_succ (l : List UInt8) {a k : Nat} (h : a + k < l.length) : numAt l a (k + 1) = numAt l a k + 256 ^ k * l[a + k].toNat := by
  unfold numAt
  rw [drop_take_succ l h, leNum_snoc, List.length_take, List.length_drop, Nat.min_eq_left (by omega)]
theorem numAt_cons (l : List UInt8) {a k : Nat} (h : a < l.length) : numAt l a (k + 1) = l[a].toNat + 256 * numAt l (a + 1) k := by
  unfold numAt
  rw [List.drop_eq_getElem_cons h, List.take_succ_cons]
  rfl
theorem numAt_lt (l : List UInt8) (a k : Nat) : numAt l a k < 256 ^ k := by
  unfold numAt
  refine Nat.lt_of_lt_of_le (leNum_lt _) (Nat.pow_le_pow_right (by decide) ?_)
  rw [List.length_take]; omega
theorem p4 {k : Nat} (h : k < 4) : 256 ^ k * 256 ≤ 4294967296 ∧ 1 ≤ 256 ^ k := by
  have h2 : k = 0 ∨ k = 1 ∨ k = 2 ∨ k = 3 := by omega
  rcases h2 with rfl | rfl | rfl | rfl <;> decide
theorem p5 {k : Nat} (h : k ≤ 4) : 256 ^ k ≤ 4294967296 ∧ 1 ≤ 256 ^ k := by
  have h2 : k = 0 ∨ k = 1 ∨ k = 2 ∨ k = 3 ∨ k = 4 := by omega
  rcases h2 with rfl | rfl | rfl | rfl | rfl <;> decide
theorem two8 (k : Nat) : (2 : Nat) ^ (8 * k) = 256 ^ k := by rw [Nat.pow_mul]
theorem two8i (k : Nat) : (2 : Int) ^ (8 * k) = ((256 ^ k : Nat) : Int) := by rw [← two8]; push_cast; rfl
theorem numAt_small (l : List UInt8) (a : Nat) {k : Nat} (h : k ≤ 4) : numAt l a k < 4294967296 := Nat.lt_of_lt_of_le (numAt_lt l a k) (p5 h).1

theorem wraps_i64 (n : Int) (h₀ : 0 ≤ n) (h₁ : n < 2 ^ 63) : IntKind.i64.wrap n = n := by rw [IntKind.wrap_i64]; omega
theorem or_step (l : List UInt8) {a k : Nat} (h : a + k < l.length) (hk : k < 4) :
    bits .or .i64 ((numAt l a k : Nat) : Int) (wrap64 (((l[a + k].toNat : Nat) : Int) * 2 ^ (8 * k))) = ((numAt l a (k + 1) : Nat) : Int) := by
  have h1 := numAt_lt l a k
  have h2 := p4 hk
  have h3 := l[a + k].toNat_lt
  rw [numAt_succ l h, two8i, ← Int.natCast_mul]
  have h4 : l[a + k].toNat * 256 ^ k < 4294967296 := by
    have : l[a + k].toNat * 256 ^ k ≤ 255 * 256 ^ k := Nat.mul_le_mul_right _ (by omega)
    omega
  rw [IntWalk.wrap64_in _ ⟨by omega, by omega⟩]
  have hj : (256 ^ k : Nat) * l[a + k].toNat = 2 ^ (8 * k) * l[a + k].toNat := by rw [two8]
  rw [(bits_nat .i64 63 (by decide) wraps_i64 _ _ (by omega) (by omega)).2, Nat.mul_comm, hj]
  congr 1
  rw [Nat.or_comm, ← Nat.two_pow_add_eq_or_of_lt (by rw [two8]; exact h1)]
  omega

/-! ### what is put -/
def putL (l : List UInt8) (a n : Nat) : Nat → List UInt8
  | 0 => l
  | k + 1 => (putL l a n k).set (a + k) (UInt8.ofNat (n / 256 ^ k))
theorem putL_length (l : List UInt8) (a n k : Nat) : (putL l a n k).length = l.length := by
  induction k with
  | zero => rfl
  | succ k ih => rw [putL, List.length_set, ih]
theorem putL_take (l : List UInt8) (a n k : Nat) : (putL l a n k).take a = l.take a := by
  induction k with
  | zero => rfl
  | succ k ih =>
    rw [putL, List.take_set, List.set_eq_of_length_le (by rw [List.length_take]; omega), ih]
theorem putL_drop (l : List UInt8) (a n k : Nat) : ∀ j, a + k ≤ j → (putL l a n k).drop j = l.drop j := by
  induction k with
  | zero => intro j _; rfl
  | succ k ih =>
    intro j hj
    rw [putL, List.drop_set_of_lt (by omega), ih j (by omega)]
theorem putL_num (l : List UInt8) (a n k : Nat) (h : a + k ≤ l.length) : numAt (putL l a n k) a k = n % 256 ^ k := by
  induction k with
  | zero => simp [numAt_zero, Nat.mod_one]
  | succ k ih =>
    have hl : a + k < (putL l a n (k + 1)).length := by rw [putL_length]; omega
    rw [numAt_succ _ hl]
    have h1 : numAt (putL l a n (k + 1)) a k = numAt (putL l a n k) a k := by
      unfold numAt
      rw [putL, List.drop_set, if_neg (by omega), List.take_set, List.set_eq_of_length_le (by rw [List.length_take, List.length_drop, putL_length]; omega)]
    have h2 : (putL l a n (k + 1))[a + k] = UInt8.ofNat (n / 256 ^ k) := by
      simp [putL]
    rw [h1, ih (by omega), h2, UInt8.toNat_ofNat']
    exact (Nat.mod_pow_succ (x := n) (b := 256) (k := k)).symm

theorem wrap8 (n : Int) : IntKind.u8.wrap n = n % 256 := IntKind.wrap_u8 n
theorem byte_shr (N k : Nat) : IntKind.u8.wrap ((N : Int) / 2 ^ (8 * k)) = (((UInt8.ofNat (N / 256 ^ k)).toNat : Nat) : Int) := by
  rw [wrap8, two8i, UInt8.toNat_ofNat']
  omega
theorem byte_mod (N k : Nat) : IntKind.u8.wrap (((N / 256 ^ k : Nat) : Int) % 256) = (((UInt8.ofNat (N / 256 ^ k)).toNat : Nat) : Int) := by
  rw [wrap8, UInt8.toNat_ofNat']
  omega
theorem byte_mod' (N k : Nat) : ((N / 256 ^ k : Nat) : Int) % 256 = (((UInt8.ofNat (N / 256 ^ k)).toNat : Nat) : Int) := by
  rw [UInt8.toNat_ofNat']
  omega
theorem next_div (N k : Nat) : ((N / 256 ^ k : Nat) : Int) / 256 = ((N / 256 ^ (k + 1) : Nat) : Int) := by
  rw [Nat.pow_succ, ← Nat.div_div_eq_div_mul]
  omega
/-- n goes into k bytes. -/
def goesB (n : Int) (k : Nat) : Bool := n / 2 ^ (8 * k) == 0
theorem goesB_iff (n : Int) (k : Nat) : goesB n k = true ↔ 0 ≤ n ∧ n < (256 ^ k : Nat) := by
  unfold goesB
  rw [two8i, beq_iff_eq]
  have h : (0 : Int) < ((256 ^ k : Nat) : Int) := by have := Nat.pow_pos (n := k) (show 0 < 256 by decide); omega
  constructor
  · intro e
    have h1 := Int.emod_add_mul_ediv n ((256 ^ k : Nat) : Int)
    have h2 := Int.emod_nonneg n (show ((256 ^ k : Nat) : Int) ≠ 0 by omega)
    have h3 := Int.emod_lt_of_pos n h
    rw [e] at h1
    simp only [Int.mul_zero] at h1
    omega
  · rintro ⟨h1, h2⟩
    exact Int.ediv_eq_zero_of_lt h1 h2

/-! ### bits -/
def bitN (x s : Nat) : Nat := x / 2 ^ s % 2
def bitB (l : List UInt8) (i : Nat) : Bool := bitN (l.getD (i / 8) 0).toNat (i % 8) == 1
def bitI (l : List UInt8) (i : Nat) : Int := if bitB l i then 1 else 0
theorem bitI_in (l : List UInt8) (i : Nat) : bitI l i = 0 ∨ bitI l i = 1 := by unfold bitI; split <;> simp
theorem and_one (l : List UInt8) {i : Nat} (h : i / 8 < l.length) : bits .and .i64 (wrap64 (((l[i / 8].toNat : Nat) : Int) / 2 ^ (i % 8))) 1 = bitI l i := by
  have hx := l[i / 8].toNat_lt
  have hc : ((l[i / 8].toNat : Nat) : Int) / 2 ^ (i % 8) = ((l[i / 8].toNat / 2 ^ (i % 8) : Nat) : Int) := by push_cast; rfl
  have hd : l[i / 8].toNat / 2 ^ (i % 8) ≤ l[i / 8].toNat := Nat.div_le_self _ _
  obtain ⟨q, hq⟩ : ∃ q, q = l[i / 8].toNat / 2 ^ (i % 8) := ⟨_, rfl⟩
  rw [hc, ← hq]
  rw [← hq] at hd
  rw [IntWalk.wrap64_in _ ⟨by omega, by omega⟩]
  have hm := bits_mask .i64 63 (by decide) wraps_i64 1 (by decide) (q : Int) (by omega) (by omega)
  rw [show (2 : Int) ^ 1 - 1 = 1 from rfl] at hm
  rw [hm]
  unfold bitI bitB bitN
  rw [List.getD_eq_getElem?_getD, List.getElem?_eq_getElem h, Option.getD_some, ← hq]
  split
  · rename_i e; rw [beq_iff_eq] at e; omega
  · rename_i e; rw [beq_iff_eq] at e; omega
theorem halves (x k : Nat) : ((x / 2 ^ k : Nat) : Int) / 2 = ((x / 2 ^ (k + 1) : Nat) : Int) := by
  rw [Nat.pow_succ, ← Nat.div_div_eq_div_mul]
  omega
theorem last_bit (l : List UInt8) {i : Nat} (h : i / 8 < l.length) : (((l[i / 8].toNat / 2 ^ (i % 8) : Nat) : Int) % 2 == 1) = bitB l i := by
  unfold bitB bitN
  rw [List.getD_eq_getElem?_getD, List.getElem?_eq_getElem h, Option.getD_some, Bool.eq_iff_iff, beq_iff_eq, beq_iff_eq]
  omega

def setN (x s : Nat) (on : Bool) : Nat := if on then (if bitN x s == 1 then x else x + 2 ^ s) else (if bitN x s == 1 then x - 2 ^ s else x)
def setL (l : List UInt8) (i : Nat) (on : Bool) : List UInt8 := l.set (i / 8) (UInt8.ofNat (setN (l.getD (i / 8) 0).toNat (i % 8) on))
theorem setL_length (l : List UInt8) (i : Nat) (on : Bool) : (setL l i on).length = l.length := List.length_set
theorem set_facts : ∀ (x : Fin 256) (s : Fin 8) (on : Bool), setN x s on < 256 ∧ bitN (setN x s on) s = on.toNat ∧ (∀ t : Fin 8, t ≠ s → bitN (setN x s on) t = bitN x t) := by decide +kernel
theorem or_facts : ∀ (x : Fin 256) (s : Fin 8), bits .or .u8 ((x : Nat) : Int) (((2 ^ (s : Nat) : Nat)) : Int) = ((setN x s true : Nat) : Int) := by decide +kernel
theorem andNot_facts : ∀ (x : Fin 256) (s : Fin 8), bits .andNot .u8 ((x : Nat) : Int) (((2 ^ (s : Nat) : Nat)) : Int) = ((setN x s false : Nat) : Int) := by decide +kernel

theorem setL_bit (l : List UInt8) {i : Nat} (on : Bool) (h : i / 8 < l.length) : bitB (setL l i on) i = on := by
  unfold bitB setL
  rw [List.getD_eq_getElem?_getD, List.getElem?_set_self h, Option.getD_some, UInt8.toNat_ofNat']
  have hx := (l.getD (i / 8) 0).toNat_lt
  have h1 := set_facts ⟨(l.getD (i / 8) 0).toNat, hx⟩ ⟨i % 8, Nat.mod_lt _ (by decide)⟩ on
  simp only at h1
  rw [Nat.mod_eq_of_lt h1.1, h1.2.1]
  cases on <;> rfl
theorem setL_other (l : List UInt8) {i j : Nat} (on : Bool) (h : i / 8 < l.length) (hj : j ≠ i) : bitB (setL l i on) j = bitB l j := by
  unfold bitB setL
  by_cases e : j / 8 = i / 8
  · rw [e, List.getD_eq_getElem?_getD, List.getElem?_set_self h, Option.getD_some, UInt8.toNat_ofNat']
    have hx := (l.getD (i / 8) 0).toNat_lt
    have h1 := set_facts ⟨(l.getD (i / 8) 0).toNat, hx⟩ ⟨i % 8, Nat.mod_lt _ (by decide)⟩ on
    simp only at h1
    have h2 := h1.2.2 ⟨j % 8, Nat.mod_lt _ (by decide)⟩ (by intro e2; have e3 := congrArg Fin.val e2; simp only at e3; omega)
    simp only at h2
    rw [Nat.mod_eq_of_lt h1.1, h2]
  · rw [List.getD_eq_getElem?_getD, List.getElem?_set_ne (fun e2 => e e2.symm), ← List.getD_eq_getElem?_getD]

/-! ### how many -/
def cnt (l : List UInt8) : Nat → Nat
  | 0 => 0
  | k + 1 => cnt l k + (bitB l k).toNat
theorem cnt_le (l : List UInt8) (k : Nat) : cnt l k ≤ k := by
  induction k with
  | zero => simp [cnt]
  | succ k ih => have : (bitB l k).toNat ≤ 1 := Bool.toNat_le _; simp only [cnt]; omega
theorem cnt_set (l : List UInt8) {i : Nat} (on : Bool) (h : i / 8 < l.length) (m : Nat) :
    (cnt (setL l i on) m : Int) - cnt l m = if i < m then (on.toNat : Int) - (bitB l i).toNat else 0 := by
  induction m with
  | zero => simp [cnt]
  | succ m ih =>
    simp only [cnt]
    by_cases e : m = i
    · subst e
      rw [if_neg (by omega)] at ih
      rw [if_pos (by omega), setL_bit l on h]
      omega
    · rw [setL_other l on h e]
      by_cases hm : i < m
      · rw [if_pos hm] at ih
        rw [if_pos (by omega)]
        omega
      · rw [if_neg hm] at ih
        rw [if_neg (by omega)]
        omega

/-! ### the first that is free -/
def ff (l : List UInt8) (a : Nat) : Nat → Int
  | 0 => -1
  | d + 1 => if bitB l a then ff l (a + 1) d else a
theorem ff_set (l : List UInt8) (a d : Nat) (h : bitB l a = true) : ff l a (d + 1) = ff l (a + 1) d := by rw [ff, if_pos h]
theorem ff_free (l : List UInt8) (a d : Nat) (h : bitB l a = false) : ff l a (d + 1) = a := by rw [ff, if_neg (by rw [h]; decide)]
theorem ff_spec (l : List UInt8) (d : Nat) : ∀ a, (ff l a d = -1 ∧ ∀ i, a ≤ i → i < a + d → bitB l i = true) ∨ (∃ k : Nat, ff l a d = k ∧ a ≤ k ∧ k < a + d ∧ bitB l k = false ∧ ∀ i, a ≤ i → i < k → bitB l i = true) := by
  induction d with
  | zero => intro a; exact Or.inl ⟨rfl, fun i h1 h2 => by omega⟩
  | succ d ih =>
    intro a
    by_cases hb : bitB l a = true
    · rw [ff_set l a d hb]
      rcases ih (a + 1) with ⟨h1, h2⟩ | ⟨k, h1, h2, h3, h4, h5⟩
      · refine Or.inl ⟨h1, fun i hi1 hi2 => ?_⟩
        by_cases e : i = a
        · subst e; exact hb
        · exact h2 i (by omega) (by omega)
      · refine Or.inr ⟨k, h1, by omega, by omega, h4, fun i hi1 hi2 => ?_⟩
        by_cases e : i = a
        · subst e; exact hb
        · exact h5 i (by omega) (by omega)
    · have hb' : bitB l a = false := by simpa using hb
      rw [ff_free l a d hb']
      exact Or.inr ⟨a, rfl, Nat.le_refl _, by omega, hb', fun i h1 h2 => by omega⟩

/-! ### runs -/
def bump (R : List Int) : List Int := R.set (R.length - 1) (R.getD (R.length - 1) 0 + 1)
def grow (R : List Int) (b : Bool) : List Int := if b = decide (R.length % 2 = 1) then R ++ [0] else R
def runsTo (l : List UInt8) : Nat → List Int
  | 0 => [0]
  | k + 1 => bump (grow (runsTo l k) (bitB l k))
theorem bump_length (R : List Int) : (bump R).length = R.length := List.length_set
theorem grow_length (R : List Int) (b : Bool) : R.length ≤ (grow R b).length ∧ (grow R b).length ≤ R.length + 1 := by
  unfold grow
  split <;> simp
theorem runsTo_length (l : List UInt8) (k : Nat) : 1 ≤ (runsTo l k).length ∧ (runsTo l k).length ≤ k + 1 := by
  induction k with
  | zero => simp [runsTo]
  | succ k ih =>
    rw [runsTo, bump_length]
    have := grow_length (runsTo l k) (bitB l k)
    omega
end Go.Proofs.YtcdhakfmljjaoaaGreatDoor

/-
  The calls of bits, and the document's: numbers.
-/



namespace Go.Proofs.YtcdhakfmljjaoaaGreatDoor
set_option maxRecDepth 100000
open Go.RowKit Go.Maps

/-- So many bytes stand there. -/
def Std (n : Nat) (a k : Int) : Prop := 1 ≤ k ∧ k ≤ 4 ∧ 0 ≤ a ∧ a ≤ (n : Int) - k

set_option maxHeartbeats 400000 in
theorem stands_ok (w : World) (A : Option Addr) (n cap : Nat) (a k : Int) (hl : n ≤ 140737488351232) (h : Std n a k) :
    Calls Tryz.prog 85 #[.slice A n cap, .int .i64 a, .int .i64 k] w fun e w' => e = .returned (.bool true) ∧ w = w' := by
  obtain ⟨h1, h2, h3, h4⟩ := h
  go_enter Tryz.func85, Tryz.ntmps85
  go_wp2_with fail
  go_ret
  exact ⟨by simp, rfl⟩
set_option maxHeartbeats 400000 in
theorem stands_no (w : World) (A : Option Addr) (n cap : Nat) (a k : Int) (hl : n ≤ 140737488351232) (h : ¬ Std n a k) :
    Calls Tryz.prog 85 #[.slice A n cap, .int .i64 a, .int .i64 k] w fun e w' => e = .returned (.bool false) ∧ w = w' := by
  have H := Lib.hid h
  clear h
  go_enter Tryz.func85, Tryz.ntmps85
  go_wp2_with fail
  all_goals go_ret
  all_goals
    refine ⟨?_, rfl⟩
    have h := H.out
    unfold Std at h
    simp
    try omega
set_option maxHeartbeats 400000 in
theorem place_ok (w : World) (A : Option Addr) (n cap : Nat) (a k : Int) (hl : n ≤ 140737488351232) (h : Std n a k) :
    Calls Tryz.prog 64 #[.slice A n cap, .int .i64 a, .int .i64 k] w fun e w' => e = .returned (.bool true) ∧ w = w' := by
  obtain ⟨h1, h2, h3, h4⟩ := h
  have h5 : a ≤ n := by omega
  go_enter Tryz.func64, Tryz.ntmps64
  go_wp2_with fail
  go_ret
  exact ⟨by simp; omega, rfl⟩
set_option maxHeartbeats 400000 in
theorem place_no (w : World) (A : Option Addr) (n cap : Nat) (a k : Int) (hl : n ≤ 140737488351232) (h : ¬ Std n a k) :
    Calls Tryz.prog 64 #[.slice A n cap, .int .i64 a, .int .i64 k] w fun e w' => e = .returned (.bool false) ∧ w = w' := by
  have H := Lib.hid h
  clear h
  go_enter Tryz.func64, Tryz.ntmps64
  go_wp2_with fail
  all_goals go_ret
  all_goals
    refine ⟨?_, rfl⟩
    have h := H.out
    unfold Std at h
    simp
    try omega

set_option maxHeartbeats 400000 in
theorem goes_any (w : World) (n : Int) (k : Nat) (hk : k ≤ 4) (h1 : 1 ≤ k) (b : Bool) (hb : goesB n k = b) :
    Calls Tryz.prog 86 #[.int .i64 n, .int .i64 (k : Int)] w fun e w' => e = .returned (.bool b) ∧ w = w' := by
  have HB := Lib.hid (show (n / 2 ^ (8 * k) == 0) = b from hb)
  clear hb
  go_enter Tryz.func86, Tryz.ntmps86
  go_wp2_with fail
  go_ret
  exact ⟨by rw [← HB.out]; rfl, rfl⟩

/-! ### Get -/
set_option maxHeartbeats 1000000 in
theorem get_no (w : World) (A : Option Addr) (n cap : Nat) (a k : Int) (hl : n ≤ 140737488351232) (h : ¬ Std n a k) :
    Calls Tryz.prog 69 #[.slice A n cap, .int .i64 a, .int .i64 k] w fun e w' => e = .returned (.tuple #[.int .i64 0, .int .i64 2]) ∧ w = w' := by
  have H := Lib.hid h
  clear h
  go_enter Tryz.func69, Tryz.ntmps69
  go_wp2_with (go_at_call 85; refine (stands_no _ _ _ _ _ _ hl H.out).mono ?_; rintro e w' ⟨rfl, rfl⟩)
  go_ret2
  exact ⟨rfl, rfl⟩
set_option maxHeartbeats 1000000 in
theorem get_ok (w : World) (A : Option Addr) (n cap B a k : Nat) (l : List UInt8) (hr : Rd w B A l) (hn : l.length = n) (hl : n ≤ 140737488351232) (h1 : 1 ≤ k) (h4 : k ≤ 4) (hak : a + k ≤ n) :
    Calls Tryz.prog 69 #[.slice A n cap, .int .i64 (a : Int), .int .i64 (k : Int)] w fun e w' => e = .returned (.tuple #[.int .i64 ((numAt l a k : Nat) : Int), .int .i64 0]) ∧ w = w' := by
  have HS := Lib.hid (show Std n a k from ⟨by omega, by omega, by omega, by omega⟩)
  have HR := Lib.hid hr
  have HN := Lib.hid hn
  have HZ := Lib.hid (numAt_zero l a)
  clear hr hn
  go_enter Tryz.func69, Tryz.ntmps69
  go_wp2_with (go_at_call 85; refine (stands_ok _ _ _ _ _ _ hl HS.out).mono ?_; rintro e w' ⟨rfl, rfl⟩)
  go_loop [8, 9, 16] (fun v _ i => ∃ j : Nat, j ≤ k ∧ i = .int .i64 j ∧ v = .int .i64 ((numAt l a j : Nat) : Int)) (fun _ _ i => k - (intOf i).toNat)
  case atStart => exact ⟨0, Nat.zero_le _, rfl, by rw [HZ.out]; rfl⟩
  case round =>
    obtain ⟨j, hj, rfl, rfl⟩ := hrel
    by_cases hlt : j < k
    · have hjl : a + j < l.length := by have := HN.out; omega
      obtain ⟨blk, off, rfl, _, hc⟩ := HR.out.at_ hjl
      have hor := or_step l hjl (by omega)
      have hsm := numAt_small l a (k := j) (by omega)
      have hsm2 := numAt_small l a (k := j + 1) (by omega)
      have hx := l[a + j].toNat_lt
      obtain ⟨x, hxx⟩ : ∃ x, x = l[a + j].toNat := ⟨_, rfl⟩
      rw [← hxx] at hc hor hx
      obtain ⟨N1, hN1⟩ : ∃ N, N = numAt l a (j + 1) := ⟨_, rfl⟩
      rw [← hN1] at hor hsm2
      have HN1 := Lib.hid hN1
      generalize numAt l a j = N0 at hor hsm ⊢
      clear hjl hxx hN1
      have hi1 : (0 : Int) ≤ (a : Int) + j := by omega
      have hi2 : (a : Int) + j < n := by omega
      go_wp2_with fail
      go_round
      case rel => exact ⟨j + 1, by omega, by go_num, by rw [HN1.out]⟩
      case measure => simp [intOf]; omega
    · have hjk : j = k := by omega
      subst hjk
      go_wp2_with fail
      go_ret2
      exact ⟨rfl, rfl⟩
end Go.Proofs.YtcdhakfmljjaoaaGreatDoor

/-
  The document's Get; Clone; Put, the program's and the document's.
-/
namespace Go.Proofs.YtcdhakfmljjaoaaGreatDoor
set_option maxRecDepth 100000
open Go.RowKit Go.Maps

/-! ### Clone -/
set_option maxHeartbeats 1000000 in
theorem clone_any (w : World) (A : Option Addr) (n cap B : Nat) (l : List UInt8) (hr : Rd w B A l) (hn : l.length = n) (hB : B ≤ w.heap.size) (hA : A = none → cap = 0) (hl : n ≤ 140737488351232) :
    Calls Tryz.prog 71 #[.slice A n cap] w (NewB w l) := by
  obtain ⟨i0, hi, hz0, hz1, hz2⟩ := info_parts infoB
  have hO : (w.alloc (.cells #[] 5)).ownsRow w.heap.size 5 1 (.slice (some ⟨w.heap.size, 0, none⟩) 0 0) 0 [] := World.ownsRow_made w #[] 0 (Nat.le_refl _) (Nat.zero_le _) (by simp)
  have hF : Fr (fun _ => False) w (w.alloc (.cells #[] 5)) := (Fr.refl _ w).alloc _
  have HO := Lib.hid hO
  have HF := Lib.hid hF
  have HI := Lib.hid (⟨hi, hz0, hz1, hz2⟩ : _ ∧ _ ∧ _ ∧ _)
  have q22 : ∀ (w : World) (a : Option Addr) (n c n' c' : Nat), (binOp .eql 22 (.slice a n c) (.slice none n' c')).run Tryz.prog w = .ok (.bool a.isNone) w := fun w a n c n' c' => Lib.run_eql_slice_nil w _ _ a n c n' c' Tryz.underlying22
  clear hO hF hi hz0 hz1 hz2
  have HN := Lib.hid hn
  cases A with
  | none =>
    have h0 : l = [] := by
      apply Decidable.byContradiction
      intro hne
      obtain ⟨_, _, e, _⟩ := hr hne
      cases e
    obtain rfl : cap = 0 := hA rfl
    obtain rfl : n = 0 := by rw [← hn, h0]; rfl
    have H0 := Lib.hid h0
    clear hr hA hl hn h0
    go_enter Tryz.func71, Tryz.ntmps71
    go_wp2_with fail
    go_ret
    rw [H0.out]
    exact ⟨none, 0, rfl, ⟨rfl, Or.inl ⟨rfl, rfl⟩⟩, Fr.refl _ _⟩
  | some ad =>
    have hr1 := hr.still HF.out hB
    have HS := Lib.hid hr1.src
    clear hr hA hn hr1
    go_enter Tryz.func71, Tryz.ntmps71
    go_wp2_with (at_builtin; refine wpList_append_own _ rfl (.tmp 5) (.tmp 6) 22 rfl w.heap.size 5 i0 (.int .u8 0) 1 1 Tryz.underlying22 HI.out.1 HI.out.2.1 HI.out.2.2.1 HI.out.2.2.2 rfl (by omega) _ 0 [] rfl HO.out ad n cap (bs l) rfl ?c1 HS.out (bs_one l) ?c2 ?c3 ?c4 ?c5)
    case c1 => rw [bs_length, HN.out]; omega
    case c2 => unfold maxLen; omega
    case c3 => omega
    case c4 => simp
    case c5 =>
      intro v' w1 hown hgrow hnil
      have hfr := HF.out.grown hgrow (fun k hk => Or.inr (by simp [Value.ownBlock] at hk; omega))
      have HW := Lib.hid (⟨hown, hfr, hnil⟩ : _ ∧ _ ∧ _)
      clear hown hgrow hnil hfr
      go_wp2
      go_ret
      exact NewB.of_own HN.out.symm rfl HW.out.2.2 HW.out.1 HW.out.2.1

/-- The refused way of the calls that make bytes. -/
theorem put_no (w : World) (A : Option Addr) (n cap : Nat) (a k m : Int) (hl : n ≤ 140737488351232) (h : ¬ Std n a k) :
    Calls Tryz.prog 63 #[.slice A n cap, .int .i64 a, .int .i64 k, .int .i64 m] w fun e w' => e = .returned (.tuple #[.slice none 0 0, .int .i64 2]) ∧ w = w' := by
  have H := Lib.hid h
  clear h
  go_enter Tryz.func63, Tryz.ntmps63
  go_wp2_with (go_at_call 85; refine (stands_no _ _ _ _ _ _ hl H.out).mono ?_; rintro e w' ⟨rfl, rfl⟩)
  go_ret2
  exact ⟨rfl, rfl⟩
theorem put_no2 (w : World) (A : Option Addr) (n cap : Nat) (a : Int) (k : Nat) (m : Int) (hl : n ≤ 140737488351232) (h : Std n a k) (hg : goesB m k = false) :
    Calls Tryz.prog 63 #[.slice A n cap, .int .i64 a, .int .i64 (k : Int), .int .i64 m] w fun e w' => e = .returned (.tuple #[.slice none 0 0, .int .i64 2]) ∧ w = w' := by
  have H := Lib.hid h
  have h1 : 1 ≤ k := by have := h.1; omega
  have h2 : k ≤ 4 := by have := h.2.1; omega
  have HG := Lib.hid hg
  clear h hg
  go_enter Tryz.func63, Tryz.ntmps63
  go_wp2_with (first
    | (go_at_call 85; refine (stands_ok _ _ _ _ _ _ hl H.out).mono ?_; rintro e w' ⟨rfl, rfl⟩)
    | (go_at_call 86; refine (goes_any _ _ _ h2 h1 _ HG.out).mono ?_; rintro e w' ⟨rfl, rfl⟩))
  go_ret2
  exact ⟨rfl, rfl⟩

/-- Bytes that a call made, and no error. -/
def NewB2 (w : World) (l : List UInt8) (e : Ending) (w' : World) : Prop :=
  ∃ A cap, e = .returned (.tuple #[.slice A l.length cap, .int .i64 0]) ∧ Own w' w.heap.size (.slice A l.length cap) l ∧ (A = none → cap = 0) ∧ Fr (fun _ => False) w w'

theorem own_none {w : World} {base cap n : Nat} {A : Option Addr} {l : List UInt8} (h : Own w base (.slice A n cap) l) (hA : A = none) : cap = 0 := by
  subst hA
  obtain ⟨_, h2⟩ := h
  rcases h2 with ⟨e, _⟩ | ⟨g, cap', cur, hv, _⟩
  · cases e; rfl
  · cases hv

end Go.Proofs.YtcdhakfmljjaoaaGreatDoor

/-
  The program's reader: its cells, the mathematics of its next number, its small methods.
-/

namespace Go.Proofs.YtcdhakfmljjaoaaGreatDoor.fl
set_option maxRecDepth 100000
open Go.RowKit Go.Maps
set_option maxRecDepth 100000

theorem num_div {l : List Int} (h : AllBit l) (k : Nat) : numI l / 2 ^ k = numI (l.drop k) := by
  have hp : (0 : Int) < 2 ^ k := Int.pow_pos (by omega)
  rcases Nat.le_total k l.length with hk | hk
  · have e : numI l = numI (l.take k) + 2 ^ k * numI (l.drop k) := by
      conv => lhs; rw [← List.take_append_drop k l, numI_append, List.length_take, Nat.min_eq_left hk]
    have hi := numI_in (l.take k) (h.sub (List.take_sublist _ _))
    rw [List.length_take, Nat.min_eq_left hk] at hi
    rw [e, Int.add_mul_ediv_left _ _ (by omega), Int.ediv_eq_zero_of_lt hi.1 hi.2, Int.zero_add]
  · have hi := numI_in l h
    have h2 : (2 : Int) ^ l.length ≤ 2 ^ k := by exact_mod_cast Nat.pow_le_pow_right (n := 2) (by omega) hk
    rw [List.drop_eq_nil_of_le hk, Int.ediv_eq_zero_of_lt hi.1 (by omega)]
    rfl
theorem num_mod {l : List Int} (h : AllBit l) (k : Nat) : numI l % 2 ^ k = numI (l.take k) := by
  have hp : (0 : Int) < 2 ^ k := Int.pow_pos (by omega)
  rcases Nat.le_total k l.length with hk | hk
  · have e : numI l = numI (l.take k) + 2 ^ k * numI (l.drop k) := by
      conv => lhs; rw [← List.take_append_drop k l, numI_append, List.length_take, Nat.min_eq_left hk]
    have hi := numI_in (l.take k) (h.sub (List.take_sublist _ _))
    rw [List.length_take, Nat.min_eq_left hk] at hi
    rw [e, Int.add_mul_emod_self_left, Int.emod_eq_of_lt hi.1 hi.2]
  · have hi := numI_in l h
    have h2 : (2 : Int) ^ l.length ≤ 2 ^ k := by exact_mod_cast Nat.pow_le_pow_right (n := 2) (by omega) hk
    rw [List.take_of_length_le hk, Int.emod_eq_of_lt hi.1 (by omega)]
theorem bits_take4 (c : List UInt8) : bitsOf (c.take 4) = (bitsOf c).take 32 := by
  rcases Nat.le_total 4 c.length with h | h
  · rw [← bitsOf_take c 4 h]
  · rw [List.take_of_length_le h, List.take_of_length_le (by rw [bitsOf_length]; omega)]
/-- The next number, out of four bytes. -/
theorem next_math {b : List UInt8} {p n : Nat} (hp : p ≤ 8 * b.length) (hn : n ≤ 24) : numI (bitsOf ((b.drop (p / 8)).take 4)) / 2 ^ (p % 8) % 2 ^ n = numI (((bitsOf b).drop p).take n) := by
  have h1 := bitsOf_bits ((b.drop (p / 8)).take 4)
  rw [num_div h1, num_mod (h1.sub (List.drop_sublist _ _)), bits_take4, ← bitsOf_drop b (p / 8) (by omega), List.drop_take, List.take_take, List.drop_drop, Nat.min_eq_left (by omega), Nat.div_add_mod]
theorem wraps_i64 (n : Int) (h₀ : 0 ≤ n) (h₁ : n < 2 ^ 63) : IntKind.i64.wrap n = n := by rw [IntKind.wrap_i64]; omega
theorem or_up {x y : Int} {i : Nat} (hy0 : 0 ≤ y) (hy : y < 2 ^ i) (hx : 0 ≤ x) (hxi : x * 2 ^ i < 2 ^ 63) (hy2 : y < 2 ^ 63) : bits .or .i64 y (x * 2 ^ i) = y + x * 2 ^ i := by
  obtain ⟨a, rfl⟩ := Int.eq_ofNat_of_zero_le hx
  obtain ⟨b, rfl⟩ := Int.eq_ofNat_of_zero_le hy0
  have ha : a * 2 ^ i < 2 ^ 63 := by exact_mod_cast hxi
  have hb : b < 2 ^ 63 := by exact_mod_cast hy2
  have hb' : b < 2 ^ i := by exact_mod_cast hy
  have e : ((a : Int) * 2 ^ i) = ((a * 2 ^ i : Nat) : Int) := by simp
  rw [e, (bits_nat .i64 63 (by decide) wraps_i64 b (a * 2 ^ i) hb ha).2, Nat.or_comm, Nat.mul_comm, ← Nat.two_pow_add_eq_or_of_lt hb' a]
  simp
  omega
theorem and_low {x : Int} {i : Nat} (hx0 : 0 ≤ x) (hx : x < 2 ^ 63) (hi : i ≤ 63) : bits .and .i64 x (2 ^ i - 1) = x % 2 ^ i := bits_mask .i64 63 (by decide) wraps_i64 i hi x hx0 hx
/-- Up to a whole byte. -/
theorem and7_neg (p : Nat) (hp : p ≤ 9223372036854775807) : bits .and .i64 (-(p : Int)) 7 = ((8 - p % 8) % 8 : Nat) := by
  have e : (BitVec.ofInt 64 (-(p : Int)) &&& BitVec.ofInt 64 7).toNat = (8 - p % 8) % 8 := by
    have h7 : (BitVec.ofInt 64 7).toNat = 2 ^ 3 - 1 := by decide
    rw [BitVec.toNat_and, h7, Nat.and_two_pow_sub_one_eq_mod, BitVec.toNat_ofInt]
    omega
  show IntKind.i64.wrap ((BitVec.ofInt 64 (-(p : Int)) &&& BitVec.ofInt 64 7).toNat : Int) = _
  rw [e, IntKind.wrap_i64]
  omega

/-- The program's reader of bytes b at bit p: its block g, its bytes' row A; both, and no other, lie in S. -/
structure RdX (w : World) (g : Nat) (A : Option Addr) (cap : Nat) (b : List UInt8) (p : Nat) (S : Nat → Prop) : Prop where
  blk : w.heap[g]? = some (.cells #[.int .i64 (p : Int), .bool true, .slice A b.length cap] 105 (0, 0))
  own : S g
  row : b ≠ [] → ∃ q, A = some ⟨q, 0, none⟩ ∧ S q ∧ q ≠ g ∧ ∀ j x, b[j]? = some x → w.cell? ⟨q, j, none⟩ = some (.int .u8 (x.toNat : Int))
  nil : A = none → cap = 0
  cap : b.length ≤ cap
  le : p ≤ 8 * b.length
  len : b.length ≤ 140737488351232
  low : ∀ i, S i → i < w.heap.size
def PR : RP := fun w a b p S => ∃ g A cap, a = ⟨g, 0, none⟩ ∧ RdX w g A cap b p S
section
variable {w w' : World} {g cap p : Nat} {A : Option Addr} {b : List UInt8} {S S' : Nat → Prop}
theorem RdX.keep (h : RdX w g A cap b p S) (hF : Fr S' w w') (hS : ∀ i, S i → ¬ S' i) : RdX w' g A cap b p S :=
  ⟨(hF.block g (h.low g h.own) (hS g h.own)).trans h.blk, h.own, fun hne => by
    obtain ⟨q, e, hq, hg, hc⟩ := h.row hne
    exact ⟨q, e, hq, hg, fun j x hj => (World.cell?_of_block (w := w) (w' := w') (hF.block q (h.low q hq) (hS q hq))).trans (hc j x hj)⟩, h.nil, h.cap, h.le, h.len, fun i hi => Nat.lt_of_lt_of_le (h.low i hi) hF.size⟩
theorem RdX.still (h : RdX w g A cap b p S) (hF : Fr (fun _ => False) w w') : RdX w' g A cap b p S := h.keep hF (fun _ _ e => e)
/-- It stands elsewhere. -/
theorem RdX.move (h : RdX w g A cap b p S) (q : Nat) (hq : q ≤ 8 * b.length) : RdX (w.setCell ⟨g, 0, none⟩ (.int .i64 (q : Int))) g A cap b q S :=
  ⟨by rw [heap_setCell_same _ _ _ _ _ _ h.blk]; rfl, h.own, fun hne => by
    obtain ⟨k, e, hk, hg, hc⟩ := h.row hne
    exact ⟨k, e, hk, hg, fun j x hj => (World.cell?_of_block (w := w) (Below.heap_setCell _ _ _ _ hg)).trans (hc j x hj)⟩, h.nil, h.cap, hq, h.len, fun i hi => by
      have := h.low i hi
      simpa [World.setCell] using this⟩
theorem RdX.fr (h : RdX w g A cap b p S) (v : Value) : Fr S w (w.setCell ⟨g, 0, none⟩ v) := (Fr.refl S w).setCell (p := ⟨g, 0, none⟩) (Or.inl h.own) v
theorem RdX.rd (h : RdX w g A cap b p S) : Rd w w.heap.size A b := fun hne => by
  obtain ⟨q, e, hq, _, hc⟩ := h.row hne
  exact ⟨q, 0, e, h.low q hq, fun j x hj => by rw [Nat.zero_add]; exact hc j x hj⟩
theorem RdX.c0 (h : RdX w g A cap b p S) : w.cell? ⟨g, 0, none⟩ = some (.int .i64 (p : Int)) := (cellAt h.blk 0).trans rfl
theorem RdX.c1 (h : RdX w g A cap b p S) : w.cell? ⟨g, 1, none⟩ = some (.bool true) := (cellAt h.blk 1).trans rfl
theorem RdX.c2 (h : RdX w g A cap b p S) : w.cell? ⟨g, 2, none⟩ = some (.slice A b.length cap) := (cellAt h.blk 2).trans rfl
theorem RdX.f0 (h : RdX w g A cap b p S) : w.frozen? ⟨g, 0, none⟩ = false := freeAt h.blk 0
theorem RdX.p64 (h : RdX w g A cap b p S) : p ≤ 1125899906842624 := by have := h.le; have := h.len; omega
end

set_option maxHeartbeats 2000000 in
theorem pmaybe (w : World) (n : Int) (hn : Big n) : Calls Tryz.prog 108 #[.int .i64 n] w fun e w' => e = .returned (.bool (decide (0 ≤ n) && decide (n ≤ 24))) ∧ w = w' := by
  obtain ⟨h1, h2⟩ := hn
  by_cases h : 0 ≤ n
  · by_cases k : n ≤ 24
    · have HD := Lib.hid (show (decide (0 ≤ n) && decide (n ≤ 24)) = true by rw [decide_eq_true h, decide_eq_true k]; rfl)
      rw [HD.out]
      go_enter Tryz.func108, Tryz.ntmps108
      go_wp2_with fail
      go_ret
      exact ⟨rfl, rfl⟩
    · have HD := Lib.hid (show (decide (0 ≤ n) && decide (n ≤ 24)) = false by rw [decide_eq_false k, Bool.and_false])
      rw [HD.out]
      go_enter Tryz.func108, Tryz.ntmps108
      go_wp2_with fail
      go_ret
      exact ⟨rfl, rfl⟩
  · have HD := Lib.hid (show (decide (0 ≤ n) && decide (n ≤ 24)) = false by rw [decide_eq_false h]; rfl)
    rw [HD.out]
    go_enter Tryz.func108, Tryz.ntmps108
    go_wp2_with fail
    go_ret
    exact ⟨rfl, rfl⟩
section
variable {w : World} {g cap p : Nat} {A : Option Addr} {b : List UInt8} {S : Nat → Prop}
set_option maxHeartbeats 2000000 in
theorem pmissing (h : RdX w g A cap b p S) : Calls Tryz.prog 77 #[.pointer (some ⟨g, 0, none⟩)] w fun e w' => e = .returned (.bool false) ∧ w = w' := by
  have c1 := h.c1
  clear h
  go_enter Tryz.func77, Tryz.ntmps77
  go_wp2_with fail
  go_ret
  exact ⟨rfl, rfl⟩
set_option maxHeartbeats 2000000 in
theorem pleft (h : RdX w g A cap b p S) : Calls Tryz.prog 109 #[.pointer (some ⟨g, 0, none⟩)] w fun e w' => e = .returned (.int .i64 ((8 * b.length - p : Nat) : Int)) ∧ Calm w w' := by
  have c0 := h.c0
  have c2 := h.c2
  have h1 := h.le
  have h2 := h.len
  obtain ⟨n, hn⟩ : ∃ n, n = b.length := ⟨_, rfl⟩
  rw [← hn] at c2 h1 h2 ⊢
  clear h hn
  go_enter Tryz.func109, Tryz.ntmps109
  go_wp2_with fail
  go_quiet (fail)
  go_wp2
  go_ret
  exact ⟨by go_num, nq, rfl⟩
set_option maxHeartbeats 2000000 in
theorem prest (w : World) (p : Nat) (x : Bool) (hp : p ≤ 1125899906842624) : Calls Tryz.prog 141 #[.agg #[.int .i64 (p : Int), .bool x]] w fun e w' => e = .returned (.int .i64 (((8 - p % 8) % 8 : Nat) : Int)) ∧ Fr (fun _ => False) w w' := by
  have HF := Lib.hid ((Fr.refl (fun _ => False) w).alloc (.cells #[.int .i64 (p : Int), .bool x] 103))
  have HA := Lib.hid (and7_neg p (by omega))
  go_enter Tryz.func141, Tryz.ntmps141
  go_wp2_with fail
  go_ret
  exact ⟨by rw [← HA.out]; rfl, HF.out⟩
set_option maxHeartbeats 2000000 in
theorem pwithin (w : World) (p : Nat) (x : Bool) (hp : p ≤ 1125899906842624) : Calls Tryz.prog 132 #[.agg #[.int .i64 (p : Int), .bool x]] w fun e w' => e = .returned (.bool (decide (p % 8 ≠ 0))) ∧ Fr (fun _ => False) w w' := by
  have HF := Lib.hid ((Fr.refl (fun _ => False) w).alloc (.cells #[.int .i64 (p : Int), .bool x] 103))
  have HA := Lib.hid (show ((p : Int) % 8 != 0) = decide (p % 8 ≠ 0) by
    by_cases h : p % 8 = 0
    · rw [show (p : Int) % 8 = 0 by omega, decide_eq_false (by omega)]; rfl
    · rw [decide_eq_true h, bne_iff_ne]; omega)
  go_enter Tryz.func132, Tryz.ntmps132
  go_wp2_with fail
  go_ret
  exact ⟨by rw [← HA.out]; rfl, HF.out⟩
set_option maxHeartbeats 2000000 in
theorem pat (h : RdX w g A cap b p S) : Calls Tryz.prog 55 #[.pointer (some ⟨g, 0, none⟩)] w fun e w' => e = .returned (.int .i64 (p : Int)) ∧ w = w' := by
  have HM := Lib.hid (pmissing h)
  have c0 := h.c0
  clear h
  go_enter Tryz.func55, Tryz.ntmps55
  go_wp2_with (go_at_call 77; refine HM.out.mono ?_; rintro e w' ⟨rfl, rfl⟩)
  go_ret
  exact ⟨rfl, rfl⟩
end
end Go.Proofs.YtcdhakfmljjaoaaGreatDoor.fl
