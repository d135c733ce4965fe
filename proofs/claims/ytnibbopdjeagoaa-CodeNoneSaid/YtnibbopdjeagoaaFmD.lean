/-
  The program's writer: Put, Code, Align, Bytes, Write.
-/
import Derived.Test.YtnibbopdjeagoaaFmC
namespace Go.Proofs.Ytnibbopdjeagoaa.fl
set_option maxRecDepth 100000
open Go.RowKit Go.Maps
set_option maxRecDepth 100000

theorem lowB_nat {n k : Int} (h : lowB n k = true) : ∃ K : Nat, k = K ∧ K ≤ 24 ∧ 0 ≤ n ∧ n < 2 ^ 24 ∧ lowL n k = lowI n K := by
  unfold lowB at h
  obtain ⟨h1, h2⟩ := Bool.and_eq_true_iff.1 h
  obtain ⟨a, b, c⟩ := (mayB_iff n k).1 h1
  refine ⟨k.toNat, by omega, by omega, c, ?_, by unfold lowL; rw [if_pos h1]⟩
  have hd := of_decide_eq_true h2
  have hp : (0 : Int) < 2 ^ k.toNat := Int.pow_pos (by omega)
  have he : (2 : Int) ^ k.toNat ≤ 2 ^ 24 := by exact_mod_cast Nat.pow_le_pow_right (n := 2) (by omega) (by omega : k.toNat ≤ 24)
  have := Int.emod_add_mul_ediv n (2 ^ k.toNat)
  rw [hd, Int.mul_zero] at this
  have := Int.emod_lt_of_pos n hp
  omega
section
variable {w : World} {g cap : Nat} {A : Option Addr} {S : Nat → Prop}
set_option maxHeartbeats 4000000 in
theorem wcode {L : List Int} (h : WrM w g A cap L.length (packI L) S) (hb : AllBit L) (hl : L.length ≤ 1000000) (n k : Int) (hk : Big k) :
    Calls Try.prog 52 #[.pointer (some ⟨g, 0, none⟩), .int .i64 n, .int .i64 k] w fun e w' => e = .returned (.int .i64 (putZ n k)) ∧ WrA w g S (codeL L n k) w' := by
  have HM := Lib.hid (wmayput h n k hk)
  have hmf : ∀ (fn : Fn) (first cap : Array Value) (w : World), (Instr.makeFunc fn first cap).run Try.prog w = .ok (.func fn first cap) w := fun _ _ _ _ => rfl
  by_cases h1 : lowB n k = true
  · obtain ⟨K, rfl, hK, hn, hn2, hL⟩ := lowB_nat h1
    have HV := Lib.hid (show putZ n K = 0 by unfold putZ; rw [if_pos h1])
    have HP := Lib.hid (show codeL L n K = L ++ (lowI n K).reverse by unfold codeL; rw [if_pos h1, hL])
    rw [HV.out] at HM ⊢
    rw [HP.out]
    have HB := Lib.hid (highest_any h hb hl n K hn hn2 hK)
    clear h hb h1 hL hk
    go_enter Try.func52, Try.ntmps52
    go_wp2_with (first
      | (go_at_call 63; refine HM.out.mono ?_; rintro e w' ⟨rfl, rfl⟩)
      | (go_at_call 64; refine HB.out.mono ?_; rintro e w' ⟨⟨v, rfl⟩, HC⟩))
    go_ret
    exact ⟨rfl, HC⟩
  · have HV := Lib.hid (show putZ n k = 2 by unfold putZ; rw [if_neg h1])
    have HP := Lib.hid (show codeL L n k = L by unfold codeL; rw [if_neg h1])
    rw [HV.out] at HM ⊢
    rw [HP.out]
    have HB := Lib.hid (WrA.refl h)
    clear h hb h1 hk
    go_enter Try.func52, Try.ntmps52
    go_wp2_with (go_at_call 63; refine HM.out.mono ?_; rintro e w' ⟨rfl, rfl⟩)
    go_ret
    exact ⟨rfl, HB.out⟩
set_option maxHeartbeats 4000000 in
theorem pwrite (w : World) : Calls Try.prog 27 #[] w fun e w' => ∃ a S, e = .returned (.pointer (some a)) ∧ PV w' a [] S ∧ (∀ i, S i → w.heap.size ≤ i) ∧ Fr (fun _ => False) w w' := by
  have HE := Lib.hid (show PV (w.alloc (.cells #[.int .i64 0, .bool true, .slice none 0 0] 84)) ⟨w.heap.size, 0, none⟩ [] (fun i => i = w.heap.size) from
    ⟨w.heap.size, none, 0, rfl, ⟨heap_alloc_new _ _, rfl, ⟨rfl, Or.inl ⟨rfl, rfl⟩⟩, (fun _ _ e => by cases e), (fun _ _ _ e => by cases e), (fun i hi => by rw [World.size_alloc, hi]; omega)⟩, (fun x hx => by cases hx)⟩)
  have HF := Lib.hid ((Fr.refl (fun _ => False) w).alloc (.cells #[.int .i64 0, .bool true, .slice none 0 0] 84))
  go_enter Try.func27, Try.ntmps27
  go_wp2_with fail
  go_ret
  exact ⟨_, _, rfl, HE.out, fun i hi => by rw [hi]; exact Nat.le_refl _, HF.out⟩
end
/-- What an append of bytes leaves. -/
theorem wr_append {w w1 w2 : World} {g p m nd cap : Nat} {A : Option Addr} {S : Nat → Prop} {B d : List UInt8} {v2 : Value} (h : WrM w g A cap p B S) (hF : Fr (fun _ => False) w w1) (hm : m = B.length) (hd : nd = d.length) (hown : w2.ownsRow 0 5 1 v2 (m + nd) (bs B ++ bs d))
    (hg : w1.grownBy w2 (Value.slice A m cap).ownBlock) (hat : v2.ownBlock = (Value.slice A m cap).ownBlock ∨ v2.ownBlock = some w1.heap.size) :
    ∃ A2 cap2, v2 = .slice A2 (m + nd) cap2 ∧ w2.cell? ⟨g, 2, none⟩ = some (.slice A m cap) ∧ w2.frozen? ⟨g, 2, none⟩ = false ∧ w2.cell? ⟨g, 0, none⟩ = some (.int .i64 (p : Int)) ∧ w2.frozen? ⟨g, 0, none⟩ = false ∧ Hid (∃ T, WrM (w2.setCell ⟨g, 2, none⟩ (.slice A2 (m + nd) cap2)) g A2 cap2 p (B ++ d) T ∧ (∀ i, T i → S i ∨ w.heap.size ≤ i) ∧ Fr S w (w2.setCell ⟨g, 2, none⟩ (.slice A2 (m + nd) cap2))) := by
  obtain ⟨A2, cap2, rfl, h1, h2⟩ := (h.still hF).grow (B' := B ++ d) (by rw [List.length_append, hm, hd]) (by rw [bs_append]) hown hg hat
  have hb := (hg.block g ((h.still hF).low g h.own) (fun e => h.off m cap e.symm)).trans (h.still hF).blk
  refine ⟨A2, cap2, rfl, by rw [cellAt hb, hm]; rfl, freeAt hb 2, (cellAt hb 0).trans rfl, freeAt hb 0, ⟨_, h1, fun i hi => ?_, (hF.mono (fun _ _ e => e.elim)).trans h2 (fun _ _ e => e)⟩⟩
  rcases hi with hi | hi
  · exact Or.inl hi
  · exact Or.inr (Nat.le_trans hF.size hi.1)
section
variable {w : World} {g cap : Nat} {A : Option Addr} {S : Nat → Prop}
end
end Go.Proofs.Ytnibbopdjeagoaa.fl
