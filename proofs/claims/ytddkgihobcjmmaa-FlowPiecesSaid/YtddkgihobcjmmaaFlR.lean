/-
  A reader and a writer side by side; the law's works.
-/
import Derived.Test.YtddkgihobcjmmaaFlQ
namespace Go.Proofs.Ytddkgihobcjmmaa.fl
set_option maxRecDepth 100000
open Go.RowKit Go.Maps
set_option maxRecDepth 100000

section
variable {R : RP} {V : VP}
/-- A reader and a writer that were made behind w0. -/
def Two (R : RP) (V : VP) (w0 w : World) (a : Addr) (b : List UInt8) (p : Nat) (a2 : Addr) (L : List Int) : Prop :=
  ∃ S T, R w a b p S ∧ V w a2 L T ∧ (∀ i, S i → w0.heap.size ≤ i ∧ ¬ T i) ∧ (∀ i, T i → w0.heap.size ≤ i) ∧ Fr (fun _ => False) w0 w
theorem Two.still (HP : FlowP R V) {w0 w w' : World} {a : Addr} {b : List UInt8} {p : Nat} {a2 : Addr} {L : List Int} (h : Two R V w0 w a b p a2 L) (hF : Fr (fun _ => False) w w') : Two R V w0 w' a b p a2 L := by
  obtain ⟨S, T, h1, h2, h3, h4, h5⟩ := h
  exact ⟨S, T, HP.r_keep h1 hF (fun _ _ e => e), HP.v_keep h2 hF (fun _ _ e => e), h3, h4, h5.trans hF (fun _ _ e => e)⟩
theorem Two.r_aft (HP : FlowP R V) {w0 w w' : World} {a : Addr} {b : List UInt8} {p' : Nat} {a2 : Addr} {L : List Int} {S T : Nat → Prop} (h2 : V w a2 L T) (h3 : ∀ i, S i → w0.heap.size ≤ i ∧ ¬ T i) (h4 : ∀ i, T i → w0.heap.size ≤ i) (h5 : Fr (fun _ => False) w0 w) (h : RAft R w a b S p' w') : Two R V w0 w' a b p' a2 L := by
  obtain ⟨S', g1, g2, g3⟩ := h
  refine ⟨S', T, g1, HP.v_keep h2 g3 (fun i ht hs => (h3 i hs).2 ht), fun i hi => ?_, h4, h5.trans g3 (fun i hi hs => by have := (h3 i hs).1; omega)⟩
  rcases g2 i hi with hs | hs
  · exact h3 i hs
  · exact ⟨Nat.le_trans h5.size hs, fun ht => by have := (HP.v_in h2).1 i ht; omega⟩
theorem Two.v_aft (HP : FlowP R V) {w0 w w' : World} {a : Addr} {b : List UInt8} {p : Nat} {a2 : Addr} {L' : List Int} {S T : Nat → Prop} (h1 : R w a b p S) (h3 : ∀ i, S i → w0.heap.size ≤ i ∧ ¬ T i) (h4 : ∀ i, T i → w0.heap.size ≤ i) (h5 : Fr (fun _ => False) w0 w) (h : VAft V w a2 T L' w') : Two R V w0 w' a b p a2 L' := by
  obtain ⟨T', g1, g2, g3⟩ := h
  refine ⟨S, T', HP.r_keep h1 g3 (fun i hs => (h3 i hs).2), g1, fun i hi => ⟨(h3 i hi).1, fun ht => ?_⟩, fun i hi => ?_, h5.trans g3 (fun i hi ht => by have := h4 i ht; omega)⟩
  · rcases g2 i ht with e | e
    · exact (h3 i hi).2 e
    · have := (HP.r_in h1).1 i hi
      omega
  · rcases g2 i hi with e | e
    · exact h4 i e
    · exact Nat.le_trans h5.size e
theorem Two.take (HP : FlowP R V) {w0 w : World} {a : Addr} {b : List UInt8} {p : Nat} {a2 : Addr} {L : List Int} (h : Two R V w0 w a b p a2 L) (n : Int) (hn : Big n) : Calls Try.prog 12 #[.pointer (some a), .int .i64 n] w fun e w' => e = .returned (.tuple #[.int .i64 (takeV (bitsOf b) p n).1, .int .i64 (takeV (bitsOf b) p n).2]) ∧ Two R V w0 w' a b (takeA (bitsOf b) p n) a2 L := by
  obtain ⟨S, T, h1, h2, h3, h4, h5⟩ := h
  exact (HP.take w a b p S n h1 hn).mono fun e w' g => ⟨g.1, Two.r_aft HP h2 h3 h4 h5 g.2⟩
theorem Two.at_ (HP : FlowP R V) {w0 w : World} {a : Addr} {b : List UInt8} {p : Nat} {a2 : Addr} {L : List Int} (h : Two R V w0 w a b p a2 L) : Calls Try.prog 22 #[.pointer (some a)] w fun e w' => e = .returned (.int .i64 (p : Int)) ∧ Two R V w0 w' a b p a2 L := by
  obtain ⟨S, T, h1, h2, h3, h4, h5⟩ := id h
  exact (HP.at_ w a b p S h1).mono fun e w' g => ⟨g.1, h.still HP g.2.fr⟩
theorem Two.left (HP : FlowP R V) {w0 w : World} {a : Addr} {b : List UInt8} {p : Nat} {a2 : Addr} {L : List Int} (h : Two R V w0 w a b p a2 L) : Calls Try.prog 23 #[.pointer (some a)] w fun e w' => e = .returned (.int .i64 ((8 * b.length - p : Nat) : Int)) ∧ Two R V w0 w' a b p a2 L := by
  obtain ⟨S, T, h1, h2, h3, h4, h5⟩ := id h
  exact (HP.left w a b p S h1).mono fun e w' g => ⟨g.1, h.still HP g.2.fr⟩
theorem Two.len (HP : FlowP R V) {w0 w : World} {a : Addr} {b : List UInt8} {p : Nat} {a2 : Addr} {L : List Int} (h : Two R V w0 w a b p a2 L) : Calls Try.prog 32 #[.pointer (some a2)] w fun e w' => e = .returned (.int .i64 (L.length : Int)) ∧ Two R V w0 w' a b p a2 L := by
  obtain ⟨S, T, h1, h2, h3, h4, h5⟩ := id h
  exact (HP.len w a2 L T h2).mono fun e w' g => ⟨g.1, h.still HP g.2.fr⟩
theorem Two.put (HP : FlowP R V) {w0 w : World} {a : Addr} {b : List UInt8} {p : Nat} {a2 : Addr} {L : List Int} (h : Two R V w0 w a b p a2 L) (n k : Int) (hL : L.length ≤ 1000000) (hn : Big n) (hk : Big k) : Calls Try.prog 27 #[.pointer (some a2), .int .i64 n, .int .i64 k] w fun e w' => e = .returned (.int .i64 (putZ n k)) ∧ Two R V w0 w' a b p a2 (putL' L n k) := by
  obtain ⟨S, T, h1, h2, h3, h4, h5⟩ := h
  exact (HP.put w a2 L T n k h2 hL hn hk).mono fun e w' g => ⟨g.1, Two.v_aft HP h1 h3 h4 h5 g.2⟩
theorem Two.code (HP : FlowP R V) {w0 w : World} {a : Addr} {b : List UInt8} {p : Nat} {a2 : Addr} {L : List Int} (h : Two R V w0 w a b p a2 L) (n k : Int) (hL : L.length ≤ 1000000) (hn : Big n) (hk : Big k) : Calls Try.prog 29 #[.pointer (some a2), .int .i64 n, .int .i64 k] w fun e w' => e = .returned (.int .i64 (putZ n k)) ∧ Two R V w0 w' a b p a2 (codeL L n k) := by
  obtain ⟨S, T, h1, h2, h3, h4, h5⟩ := h
  exact (HP.code w a2 L T n k h2 hL hn hk).mono fun e w' g => ⟨g.1, Two.v_aft HP h1 h3 h4 h5 g.2⟩
theorem Two.all (HP : FlowP R V) {w0 w : World} {a : Addr} {b : List UInt8} {p : Nat} {a2 : Addr} {L : List Int} (h : Two R V w0 w a b p a2 L) (hL : L.length ≤ 1000000) : Calls Try.prog 33 #[.pointer (some a2)] w fun e w' => ∃ A cap, e = .returned (.slice A (packI L).length cap) ∧ Rd w' w'.heap.size A (packI L) ∧ Two R V w0 w' a b p a2 L := by
  obtain ⟨S, T, h1, h2, h3, h4, h5⟩ := h
  refine (HP.all w a2 L T h2 hL).mono fun e w' g => ?_
  obtain ⟨A, cap, T', rfl, ho, g1, g2, g3⟩ := g
  exact ⟨A, cap, rfl, Own.rd ho, Two.v_aft HP h1 h3 h4 h5 ⟨T', g1, fun i hi => (g2 i hi).1, g3⟩⟩

theorem lit_rd (w : World) (x : List UInt8) (cs : Array Value) (h : cs = (bs x).toArray) : Rd (w.alloc (.cells cs 5)) (w.alloc (.cells cs 5)).heap.size (some ⟨w.heap.size, 0, none⟩) x := fun _ => ⟨w.heap.size, 0, rfl, by rw [World.size_alloc]; omega, fun j y hj => by
  rw [cellAt (heap_alloc_new _ _), Nat.zero_add, h, List.getElem?_toArray, bs_get, hj]
  rfl⟩

set_option maxHeartbeats 4000000 in
theorem fworks (HP : FlowP R V) (w : World) : Calls Try.prog 24 #[] w fun e w' => e = .returned (.bool true) ∧ Fr (fun _ => False) w w' := by
  have HPP := Lib.hid HP
  have hF0 := (Fr.refl (fun _ => False) w).alloc (.cells #[.int .u8 5, .int .u8 1] 5)
  have HNW := Lib.hid (HP.new (w.alloc (.cells #[.int .u8 5, .int .u8 1] 5)) (some ⟨w.heap.size, 0, none⟩) 2 [5, 1] (lit_rd w [5, 1] _ rfl) (fun e => by cases e) (Nat.le_refl _) (by simp))
  have HF0 := Lib.hid hF0
  clear HP hF0
  go_enter Try.func24, Try.ntmps24
  go_wp2_with fail
  refine HNW.out.mono ?_
  rintro e w1 ⟨a, S, rfl, hR, hS, hF1⟩
  have HR1 := Lib.hid (⟨hR, hS, HF0.out.trans hF1 (fun _ _ e => e)⟩ : _ ∧ _ ∧ _)
  clear hR hS hF1 HNW
  go_wp2_with fail
  refine (HPP.out.write w1).mono ?_
  rintro e w2 ⟨a2, T, rfl, hV, hT, hF2⟩
  have H2 : Hid (Two R V w w2 a [5, 1] 0 a2 []) := Lib.hid ⟨S, T, HPP.out.r_keep HR1.out.1 hF2 (fun _ _ e => e), hV, fun i hi => ⟨Nat.le_trans HF0.out.size (HR1.out.2.1 i hi), fun ht => by have := hT i ht; have := (HPP.out.r_in HR1.out.1).1 i hi; omega⟩, fun i hi => Nat.le_trans HR1.out.2.2.size (hT i hi), HR1.out.2.2.trans hF2 (fun _ _ e => e)⟩
  clear hV hT hF2 HR1
  have HB := Lib.hid (show bitsOf [5, 1] = [1, 0, 1, 0, 0, 0, 0, 0, 1, 0, 0, 0, 0, 0, 0, 0] from ex_bits)
  go_wp2_with fail
  refine (H2.out.take HPP.out 1 (by omega)).mono ?_
  rw [HB.out, show takeV [1, 0, 1, 0, 0, 0, 0, 0, 1, 0, 0, 0, 0, 0, 0, 0] 0 1 = (1, 0) by decide, show takeA [1, 0, 1, 0, 0, 0, 0, 0, 1, 0, 0, 0, 0, 0, 0, 0] 0 1 = 1 by decide]
  rintro e w3 ⟨rfl, h3⟩
  have H3 := Lib.hid h3
  clear h3 H2
  go_wp2_with fail
  refine (H3.out.take HPP.out 2 (by omega)).mono ?_
  rw [HB.out, show takeV [1, 0, 1, 0, 0, 0, 0, 0, 1, 0, 0, 0, 0, 0, 0, 0] 1 2 = (2, 0) by decide, show takeA [1, 0, 1, 0, 0, 0, 0, 0, 1, 0, 0, 0, 0, 0, 0, 0] 1 2 = 3 by decide]
  rintro e w4 ⟨rfl, h4⟩
  have H4 := Lib.hid h4
  clear h4 H3
  go_wp2_with fail
  refine (H4.out.take HPP.out 6 (by omega)).mono ?_
  rw [HB.out, show takeV [1, 0, 1, 0, 0, 0, 0, 0, 1, 0, 0, 0, 0, 0, 0, 0] 3 6 = (32, 0) by decide, show takeA [1, 0, 1, 0, 0, 0, 0, 0, 1, 0, 0, 0, 0, 0, 0, 0] 3 6 = 9 by decide]
  rintro e w5 ⟨rfl, h5⟩
  have H5 := Lib.hid h5
  clear h5 H4
  go_wp2_with fail
  refine (H5.out.code HPP.out 1 3 (by simp) (by omega) (by omega)).mono ?_
  rw [show codeL [] 1 3 = [0, 0, 1] by decide]
  rintro e w6 ⟨rfl, h6⟩
  have H6 := Lib.hid h6
  clear h6 H5
  go_wp2_with fail
  refine (H6.out.put HPP.out 1 3 (by simp) (by omega) (by omega)).mono ?_
  rw [show putL' [0, 0, 1] 1 3 = [0, 0, 1, 1, 0, 0] by decide]
  rintro e w7 ⟨rfl, h7⟩
  have H7 := Lib.hid h7
  clear h7 H6
  go_wp2_with fail
  refine (H7.out.at_ HPP.out).mono ?_
  rintro e w8 ⟨rfl, h8⟩
  have H8 := Lib.hid h8
  clear h8 H7
  go_wp2_with fail
  refine (H8.out.left HPP.out).mono ?_
  rw [show 8 * [(5 : UInt8), 1].length - 9 = 7 by decide]
  rintro e w9 ⟨rfl, h9⟩
  have H9 := Lib.hid h9
  clear h9 H8
  go_wp2_with fail
  refine (H9.out.all HPP.out (by simp)).mono ?_
  rw [ex_pack]
  rintro e w10 ⟨A, cap, rfl, hrd, h10⟩
  have H10 := Lib.hid (⟨hrd, h10⟩ : _ ∧ _)
  have HSB := Lib.hid (same_any (w10.alloc (.cells #[.int .u8 12] 5)) A (some ⟨w10.heap.size, 0, none⟩) (w10.alloc (.cells #[.int .u8 12] 5)).heap.size (w10.alloc (.cells #[.int .u8 12] 5)).heap.size cap 1 [12] [12] ((hrd.still ((Fr.refl (fun _ => False) w10).alloc _) (Nat.le_refl _)).more ((Fr.refl (fun _ => False) w10).alloc _).size) (lit_rd w10 [12] _ rfl) (by decide))
  rw [decide_eq_true rfl] at HSB
  have H11 := Lib.hid (h10.still HPP.out ((Fr.refl (fun _ => False) w10).alloc (.cells #[.int .u8 12] 5)))
  clear hrd h10 H9
  go_wp2_with fail
  refine HSB.out.mono ?_
  rintro e w11 ⟨rfl, hC⟩
  have H12 := Lib.hid (H11.out.still HPP.out hC.fr)
  clear hC HSB
  go_wp2_with fail
  refine (H12.out.len HPP.out).mono ?_
  rintro e w12 ⟨rfl, h13⟩
  have HF := Lib.hid (show Fr (fun _ => False) w w12 by obtain ⟨_, _, _, _, _, _, hF⟩ := h13; exact hF)
  clear h13
  go_wp2_with fail
  go_ret
  exact ⟨rfl, HF.out⟩
end
end Go.Proofs.Ytddkgihobcjmmaa.fl
