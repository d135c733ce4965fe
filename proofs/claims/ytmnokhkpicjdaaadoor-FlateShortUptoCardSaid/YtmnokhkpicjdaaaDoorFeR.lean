/-
  The program's Store.
-/
import Derived.Test.YtmnokhkpicjdaaaDoorFeP
namespace Go.Proofs.YtmnokhkpicjdaaaDoor.ft
set_option maxRecDepth 100000
open Go.RowKit Go.Maps Go.Proofs.YtmnokhkpicjdaaaDoor.fl Go.Proofs.YtmnokhkpicjdaaaDoor.cd
set_option maxRecDepth 100000

theorem store_end {b : By} (h : b.length ≤ 65535) : storeV b = blkV 1 b := by
  unfold storeV
  cases hf : b.length / 65535 with
  | zero => rfl
  | succ f => rw [storeF, if_pos h]
theorem store_more {b : By} (h : 65535 < b.length) : storeV b = blkV 0 (b.take 65535) ++ storeV (b.drop 65535) := by
  unfold storeV
  obtain ⟨f, hf⟩ : ∃ f, b.length / 65535 = f + 1 := ⟨b.length / 65535 - 1, by omega⟩
  rw [hf, storeF, if_neg (by omega), List.length_drop, show (b.length - 65535) / 65535 = f by omega]
theorem newR_of {w w' : World} {l : By} {A : Option Addr} {cap base : Nat} (ho : Own w' base (.slice A l.length cap) l) (hF : Fr (fun _ => False) w w') : NewR w l (.returned (.slice A l.length cap)) w' := by
  refine ⟨A, cap, rfl, ho.rd, fun e => ?_, ?_, hF⟩
  · subst e
    exact (own_none rfl ho).2.2
  · rcases ho.2 with ⟨e, e0⟩ | ⟨_, _, _, e, _, _, hn, _⟩
    · omega
    · cases e
      exact hn
theorem cutB_high (w : World) (A : Option Addr) (n c k : Nat) (hk : k ≤ n) :
    (Instr.slice 22 (.slice A n c) (some (.int .i64 (k : Int))) none none).run Tryd.prog w = .ok (.slice (if c = k then A else A.map (·.add k)) (n - k) (c - k)) w := by
  rw [run_slice_l w 22 A n c Tryd.underlying22 .i64 k (by omega) (by omega)]
  have hs : (sizeOf (Tryd.prog.elem 22)).run Tryd.prog w = .ok 1 w := by kernel_rfl
  rw [hs]
  simp only [Result.andThen, sliced, Int.toNat_natCast, Nat.mul_one]
/-- The bytes of a writer. -/
theorem all_on {w w0 w1 : World} {a : Addr} {Z : By} {S : Nat → Prop} (h : VAft PV w a S (bitsOf Z) w1) (hL : 8 * Z.length ≤ 4000000) (hF0 : Fr (fun _ => False) w0 w) (hS : ∀ i, S i → w0.heap.size ≤ i) : Calls Tryd.prog 17 #[.pointer (some a)] w1 (NewR w0 Z) := by
  obtain ⟨S1, h1, h2, h3⟩ := h
  refine (flow_all.all w1 a (bitsOf Z) S1 h1 (by rw [bitsOf_length]; exact hL)).mono fun e w2 ⟨A, cap, S', he, ho, _, _, hF⟩ => ?_
  rw [pack_bits] at he ho
  rw [he]
  have hs := hF0.size
  refine newR_of ho ((hF0.trans h3 (fun i hi e => by have := hS i e; omega)).trans hF (fun i hi e => ?_))
  rcases h2 i e with e2 | e2
  · have := hS i e2; omega
  · omega
set_option maxHeartbeats 4000000 in
theorem pstore (w : World) (A : Option Addr) (cap : Nat) (b : By) (hr : Rd w w.heap.size A b) (hA : A = none → cap = 0) (hc : b.length ≤ cap) (hb : b.length ≤ 262144) : Calls Tryd.prog 8 #[.slice A b.length cap] w (NewR w (storeV b)) := by
  obtain ⟨n, hn⟩ : ∃ n, n = b.length := ⟨_, rfl⟩
  have H0 := Lib.hid (⟨hn, hr, hA, hc⟩ : n = b.length ∧ Rd w w.heap.size A b ∧ (A = none → cap = 0) ∧ b.length ≤ cap)
  rw [← hn] at hb ⊢
  have HN := Lib.hid hn
  obtain ⟨U, hU⟩ : ∃ U, U = storeV b := ⟨_, rfl⟩
  have HU := Lib.hid hU
  rw [← hU]
  clear hr hA hc hn hU
  go_enter Tryd.func8, Tryd.ntmps8
  go_wp2_with fail
  refine (flow_all.write w).mono ?_
  rintro e w1 ⟨a, S, rfl, g1, g2, g3⟩
  have H1 := Lib.hid (⟨g1, g2, g3⟩ : PV w1 a [] S ∧ (∀ i, S i → w.heap.size ≤ i) ∧ Fr (fun _ => False) w w1)
  clear g1 g2 g3
  go_wp2_with fail
  go_loopw [0] (fun v0 wr => ∃ (k : Nat) (A' : Option Addr) (cap' : Nat) (r Z : By), v0 = .slice A' k cap' ∧ k ≤ n ∧ 65535 * Z.length ≤ 65540 * (n - k) ∧ Hid (k = r.length ∧ Rd w w.heap.size A' r ∧ (A' = none → cap' = 0) ∧ r.length ≤ cap' ∧ VAft PV w1 a S (bitsOf Z) wr ∧ U = Z ++ storeV r)) (fun v _ => match v with | .slice _ k _ => k | _ => 0)
  case atStart => exact ⟨n, A, cap, b, [], rfl, Nat.le_refl _, by simp, (show _ ∧ _ from ⟨H0.out.1, H0.out.2.1, H0.out.2.2.1, H0.out.2.2.2, vaft_refl H1.out.1, HU.out⟩)⟩
  case round =>
    obtain ⟨k, A', cap', r, Z, rfl, hk, hZ, HC⟩ := hrel
    clear H0
    have hcap := HC.out.2.2.2.1
    by_cases hlt : 65535 < k
    · have HPP := Lib.hid (show Calls Tryd.prog 16 #[.pointer (some a), .slice A' 65535 cap', .int .i64 0] wr (fun e w' => (∃ v, e = .returned v) ∧ VAft PV w1 a S (bitsOf (Z ++ blkV 0 (r.take 65535))) w') from by
        obtain ⟨S1, v1, v2, v3⟩ := HC.out.2.2.2.2.1
        have hl : (r.take 65535).length = 65535 := by rw [List.length_take]; have := HC.out.1; omega
        have hs1 := H1.out.2.2.size
        have := pputPlain v1 (by omega) (B := w.heap.size) (Nat.le_trans hs1 v3.size) (fun i hi => (v2 i hi).elim (H1.out.2.1 i) (fun e => Nat.le_trans hs1 e)) (A := A') (cap := cap') (d := r.take 65535) ((HC.out.2.1.take 65535).kept ((H1.out.2.2.mono (S := S) (fun _ _ e => e.elim)).trans v3 (fun _ _ e => e)) (Nat.le_refl _) (fun i hi e => by have := H1.out.2.1 i e; omega)) HC.out.2.2.1 (by rw [hl]; have := HC.out.1; omega) (by omega) 0 (Or.inl rfl)
        rw [hl] at this
        exact this.mono fun e w' ⟨he, hv⟩ => ⟨he, vaft_on v2 v3 hv⟩)
      have hlo : ∀ wx : World, (Instr.slice 22 (.slice A' k cap') none (some (.int .i64 65535)) none).run Tryd.prog wx = .ok (.slice A' 65535 cap') wx := fun wx => cut_low wx A' k cap' 65535 (by have := HC.out.1; omega)
      obtain ⟨A2, hA2⟩ : ∃ A2, A2 = (if cap' = 65535 then A' else A'.map (·.add 65535)) := ⟨_, rfl⟩
      obtain ⟨c2, hc2⟩ : ∃ c2, c2 = cap' - 65535 := ⟨_, rfl⟩
      obtain ⟨k2, hk2⟩ : ∃ k2, k2 = k - 65535 := ⟨_, rfl⟩
      have hhi : ∀ wx : World, (Instr.slice 22 (.slice A' k cap') (some (.int .i64 65535)) none none).run Tryd.prog wx = .ok (.slice A2 k2 c2) wx := fun wx => by rw [hA2, hc2, hk2]; exact cutB_high wx A' k cap' 65535 (by omega)
      have HNX := Lib.hid (show k2 = (r.drop 65535).length ∧ Rd w w.heap.size A2 (r.drop 65535) ∧ (A2 = none → c2 = 0) ∧ (r.drop 65535).length ≤ c2 ∧ U = (Z ++ blkV 0 (r.take 65535)) ++ storeV (r.drop 65535) from by
        have h1 := HC.out.1
        have hld : (r.drop 65535).length = k2 := by rw [List.length_drop]; omega
        refine ⟨hld.symm, by rw [hA2]; exact HC.out.2.1.drop (by omega), fun e => ?_, by omega, by rw [HC.out.2.2.2.2.2, store_more (by omega), List.append_assoc]⟩
        rw [hA2] at e
        by_cases e3 : cap' = 65535
        · omega
        · rw [if_neg e3] at e
          cases A' with
          | none => have := HC.out.2.2.1 rfl; omega
          | some x => cases e)
      have hbl : (Z ++ blkV 0 (r.take 65535)).length = Z.length + 65540 := by
        rw [List.length_append]
        unfold blkV
        rw [List.length_append, List.length_take]
        have := HC.out.1
        simp
        omega
      clear hA2 hc2
      go_wp2_with fail
      refine HPP.out.mono ?_
      rintro e w2 ⟨⟨v, rfl⟩, g⟩
      have H2 := Lib.hid (show k2 = (r.drop 65535).length ∧ Rd w w.heap.size A2 (r.drop 65535) ∧ (A2 = none → c2 = 0) ∧ (r.drop 65535).length ≤ c2 ∧ VAft PV w1 a S (bitsOf (Z ++ blkV 0 (r.take 65535))) w2 ∧ U = (Z ++ blkV 0 (r.take 65535)) ++ storeV (r.drop 65535) from ⟨HNX.out.1, HNX.out.2.1, HNX.out.2.2.1, HNX.out.2.2.2.1, g, HNX.out.2.2.2.2⟩)
      clear g HNX HPP
      obtain ⟨r2, hr2⟩ : ∃ r2, r2 = r.drop 65535 := ⟨_, rfl⟩
      obtain ⟨Z2, hZ2⟩ : ∃ Z2, Z2 = Z ++ blkV 0 (r.take 65535) := ⟨_, rfl⟩
      rw [← hr2, ← hZ2] at H2
      rw [← hZ2] at hbl
      have hz9 : 65535 * Z2.length ≤ 65540 * (n - k2) := by rw [hbl]; omega
      have hk9 : k2 ≤ n := by omega
      have hk8 : k2 < k := by omega
      clear hr2 hZ2 hlo hbl hk2
      go_wp2_with fail
      go_roundw
      case rel => exact ⟨k2, A2, c2, r2, Z2, rfl, hk9, hz9, H2⟩
      case measure => exact hk8
    · have HPP := Lib.hid (show Calls Tryd.prog 16 #[.pointer (some a), .slice A' k cap', .int .i64 1] wr (fun e w' => (∃ v, e = .returned v) ∧ VAft PV w1 a S (bitsOf (Z ++ blkV 1 r)) w') from by
        obtain ⟨S1, v1, v2, v3⟩ := HC.out.2.2.2.2.1
        have hs1 := H1.out.2.2.size
        have := pputPlain v1 (by omega) (B := w.heap.size) (Nat.le_trans hs1 v3.size) (fun i hi => (v2 i hi).elim (H1.out.2.1 i) (fun e => Nat.le_trans hs1 e)) (A := A') (cap := cap') (d := r) (HC.out.2.1.kept ((H1.out.2.2.mono (S := S) (fun _ _ e => e.elim)).trans v3 (fun _ _ e => e)) (Nat.le_refl _) (fun i hi e => by have := H1.out.2.1 i e; omega)) HC.out.2.2.1 hcap (by have := HC.out.1; omega) 1 (Or.inr rfl)
        rw [← HC.out.1] at this
        exact this.mono fun e w' ⟨he, hv⟩ => ⟨he, vaft_on v2 v3 hv⟩)
      have HE := Lib.hid (show U = Z ++ blkV 1 r from by rw [HC.out.2.2.2.2.2, store_end (by have := HC.out.1; omega)])
      have hbl : (Z ++ blkV 1 r).length = Z.length + 5 + k := by
        rw [List.length_append]
        unfold blkV
        rw [List.length_append]
        have := HC.out.1
        simp
        omega
      go_wp2_with fail
      refine HPP.out.mono ?_
      rintro e w2 ⟨⟨v, rfl⟩, g⟩
      have HAL := Lib.hid (all_on g (by omega) H1.out.2.2 H1.out.2.1)
      clear g HPP
      go_wp2_with fail
      refine HAL.out.mono ?_
      rintro e w3 ⟨A3, cap3, rfl, g⟩
      have H3 := Lib.hid g
      clear g HAL
      obtain ⟨m, hm⟩ : ∃ m, m = (Z ++ blkV 1 r).length := ⟨_, rfl⟩
      rw [← hm]
      have HM := Lib.hid hm
      clear hm
      go_wp2_with fail
      go_ret
      rw [HE.out]
      have hm := HM.out
      subst hm
      exact ⟨A3, cap3, rfl, H3.out⟩
end Go.Proofs.YtmnokhkpicjdaaaDoor.ft
