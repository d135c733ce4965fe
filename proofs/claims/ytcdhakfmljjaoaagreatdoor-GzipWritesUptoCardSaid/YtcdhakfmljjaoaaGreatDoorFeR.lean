/-
  The program's Store.
-/
import Derived.Test.YtcdhakfmljjaoaaGreatDoorFeP
namespace Go.Proofs.YtcdhakfmljjaoaaGreatDoor.ft
set_option maxRecDepth 100000
open Go.RowKit Go.Maps Go.Proofs.YtcdhakfmljjaoaaGreatDoor.fl Go.Proofs.YtcdhakfmljjaoaaGreatDoor.cd
set_option maxRecDepth 100000

theorem store_end {b : By} (h : b.length ≤ 65535) : storeV b = blkV 1 b := by
  unfold storeV
  cases hf : b.length / 65535 with
  | zero => rfl
  | succ f => rw [storeF, if_pos h]
theorem store_more {b : By} (h : 65535 < b.length) : storeV b = blkV 0 (b.take 65535) ++ storeV (b.drop 65535) := by
  unfold storeV
  obtain ⟨f, hf⟩ : ∃ f, b.length / 65535 = f + 1 := ⟨b.length / 65535 - 1, by omega⟩
  rw [hf, storeF, if_neg (by omega), List.length_drop, show (b.length - 65535) / 65535 = f by omega]
theorem newR_of {w w' : World} {l : By} {A : Option Addr} {cap base : Nat} (ho : Own w' base (.slice A l.length cap) l) (hF : Fr (fun _ => False) w w') : NewR w l (.returned (.slice A l.length cap)) w' := by
  refine ⟨A, cap, rfl, ho.rd, fun e => ?_, ?_, hF⟩
  · subst e
    exact (own_none rfl ho).2.2
  · rcases ho.2 with ⟨e, e0⟩ | ⟨_, _, _, e, _, _, hn, _⟩
    · omega
    · cases e
      exact hn
theorem cutB_high (w : World) (A : Option Addr) (n c k : Nat) (hk : k ≤ n) :
    (Instr.slice 22 (.slice A n c) (some (.int .i64 (k : Int))) none none).run Tryz.prog w = .ok (.slice (if c = k then A else A.map (·.add k)) (n - k) (c - k)) w := by
  rw [run_slice_l w 22 A n c Tryz.underlying22 .i64 k (by omega) (by omega)]
  have hs : (sizeOf (Tryz.prog.elem 22)).run Tryz.prog w = .ok 1 w := by kernel_rfl
  rw [hs]
  simp only [Result.andThen, sliced, Int.toNat_natCast, Nat.mul_one]
/-- The bytes of a writer. -/
theorem all_on {w w0 w1 : World} {a : Addr} {Z : By} {S : Nat → Prop} (h : VAft PV w a S (bitsOf Z) w1) (hL : 8 * Z.length ≤ 4000000) (hF0 : Fr (fun _ => False) w0 w) (hS : ∀ i, S i → w0.heap.size ≤ i) : Calls Tryz.prog 84 #[.pointer (some a)] w1 (NewR w0 Z) := by
  obtain ⟨S1, h1, h2, h3⟩ := h
  refine (flow_all.all w1 a (bitsOf Z) S1 h1 (by rw [bitsOf_length]; exact hL)).mono fun e w2 ⟨A, cap, S', he, ho, _, _, hF⟩ => ?_
  rw [pack_bits] at he ho
  rw [he]
  have hs := hF0.size
  refine newR_of ho ((hF0.trans h3 (fun i hi e => by have := hS i e; omega)).trans hF (fun i hi e => ?_))
  rcases h2 i e with e2 | e2
  · have := hS i e2; omega
  · omega
end Go.Proofs.YtcdhakfmljjaoaaGreatDoor.ft
