/-
  The program's reader: Bytes, New.
-/
import Derived.Test.YtnibbopdjeagoaaFlK
namespace Go.Proofs.Ytnibbopdjeagoaa.fl
set_option maxRecDepth 100000
open Go.RowKit Go.Maps
set_option maxRecDepth 100000

theorem ownB_low {w : World} {B B' : Nat} {v : Value} {l : List UInt8} (h : Own w B v l) (hB : B' ≤ B) : Own w B' v l := by
  obtain ⟨h1, h2⟩ := h
  refine ⟨h1, ?_⟩
  rcases h2 with h2 | ⟨g, cap, cur, hv, hg, r⟩
  · exact Or.inl h2
  · exact Or.inr ⟨g, cap, cur, hv, Nat.le_trans hB hg, r⟩
/-- What the program's Bytes answers. -/
def AnsP (w : World) (g : Nat) (A : Option Addr) (cap : Nat) (b : List UInt8) (S : Nat → Prop) (r : List UInt8 × Int) (p : Nat) (e : Ending) (w' : World) : Prop :=
  ∃ A' cap', e = .returned (.tuple #[.slice A' r.1.length cap', .int .i64 r.2]) ∧ Own w' w.heap.size (.slice A' r.1.length cap') r.1 ∧ RdX w' g A cap b p S ∧ Fr S w w'
section
variable {w : World} {g cap p : Nat} {A : Option Addr} {b : List UInt8} {S : Nat → Prop}
theorem ansP_none {w1 : World} (h : RdX w g A cap b p S) (hF : Fr (fun _ => False) w w1) (z : Int) : AnsP w g A cap b S ([], z) p (.returned (.tuple #[.slice none 0 0, .int .i64 z])) w1 := ⟨none, 0, rfl, ⟨rfl, Or.inl ⟨rfl, rfl⟩⟩, h.still hF, hF.mono (fun _ _ e => e.elim)⟩
theorem rdX_new {w1 : World} {A1 : Option Addr} {cap1 : Nat} {b : List UInt8} {B : Nat} (ho : Own w1 B (.slice A1 b.length cap1) b) (hl : b.length ≤ 140737488351232) :
    RdX (w1.alloc (.cells #[.int .i64 0, .bool true, .slice A1 b.length cap1] 79)) w1.heap.size A1 cap1 b 0 (fun i => i = w1.heap.size ∨ (Value.slice A1 b.length cap1).ownBlock = some i) :=
  ⟨heap_alloc_new _ _, Or.inl rfl, fun hne => by
    have h0 : 0 < b.length := List.length_pos_iff.2 hne
    obtain ⟨g, rfl, hg, hlt, _⟩ := ho.at_ h0
    refine ⟨g, rfl, Or.inr rfl, by omega, fun j x hj => ?_⟩
    obtain ⟨g', off, e, _, hc⟩ := ho.rd hne
    cases e
    have := hc j x hj
    rw [Nat.zero_add] at this
    exact (World.cell?_of_block (w := w1) (Below.heap_alloc _ _ _ hlt)).trans this, (own_cap2 ho).1, (own_cap2 ho).2, by omega, hl, fun i hi => by
    rw [World.size_alloc]
    rcases hi with rfl | hi
    · omega
    · rcases ho.2 with ⟨e, _⟩ | ⟨g, c, cur, e, _, hh, _⟩
      · rw [e] at hi; cases hi
      · rw [e] at hi
        cases hi
        have := (Array.getElem?_eq_some_iff.1 hh).1
        show g < w1.heap.size + 1
        omega⟩
set_option maxHeartbeats 4000000 in
theorem pnew (w : World) (A : Option Addr) (cap : Nat) (b : List UInt8) (hr : Rd w w.heap.size A b) (hA : A = none → cap = 0) (hl : b.length ≤ 140737488351232) :
    Calls Try.prog 22 #[.slice A b.length cap] w fun e w' => ∃ a S, e = .returned (.pointer (some a)) ∧ PR w' a b 0 S ∧ (∀ i, S i → w.heap.size ≤ i) ∧ Fr (fun _ => False) w w' := by
  have HC0 := Lib.hid (clone_any w A b.length cap w.heap.size b hr rfl (Nat.le_refl _) hA hl)
  obtain ⟨n, hn⟩ : ∃ n, n = b.length := ⟨_, rfl⟩
  have HE := Lib.hid (show ∀ (w1 : World) (A1 : Option Addr) (cap1 : Nat), Own w1 w.heap.size (.slice A1 n cap1) b → Fr (fun _ => False) w w1 → ∃ a S, (Ending.returned (.pointer (some ⟨w1.heap.size, 0, none⟩))) = .returned (.pointer (some a)) ∧ PR (w1.alloc (.cells #[.int .i64 0, .bool true, .slice A1 n cap1] 79)) a b 0 S ∧ (∀ i, S i → w.heap.size ≤ i) ∧ Fr (fun _ => False) w (w1.alloc (.cells #[.int .i64 0, .bool true, .slice A1 n cap1] 79)) by
    intro w1 A1 cap1 ho hF
    subst hn
    refine ⟨_, _, rfl, ⟨_, _, _, rfl, rdX_new ho hl⟩, fun i hi => ?_, hF.alloc _⟩
    rcases hi with rfl | hi
    · exact hF.size
    · rcases ho.2 with ⟨e, _⟩ | ⟨g, c, cur, e, hg, _⟩
      · rw [e] at hi; cases hi
      · rw [e] at hi
        cases hi
        exact hg)
  rw [← hn] at HC0 ⊢
  have HN := Lib.hid hn
  clear hr hA hl hn
  go_enter Try.func22, Try.ntmps22
  go_wp2_with (go_at_call 45; refine HC0.out.mono ?_; rintro e w1 ⟨A1, cap1, rfl, ho, hF⟩; rw [← HN.out] at ho ⊢)
  go_ret
  exact HE.out w1 A1 cap1 ho hF
end
end Go.Proofs.Ytnibbopdjeagoaa.fl
