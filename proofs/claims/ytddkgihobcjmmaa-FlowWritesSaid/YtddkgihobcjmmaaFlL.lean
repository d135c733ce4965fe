/-
  The program's reader: Bytes, New.
-/
import Derived.Test.YtddkgihobcjmmaaFlK
namespace Go.Proofs.Ytddkgihobcjmmaa.fl
set_option maxRecDepth 100000
open Go.RowKit Go.Maps
set_option maxRecDepth 100000

theorem ownB_low {w : World} {B B' : Nat} {v : Value} {l : List UInt8} (h : Own w B v l) (hB : B' ≤ B) : Own w B' v l := by
  obtain ⟨h1, h2⟩ := h
  refine ⟨h1, ?_⟩
  rcases h2 with h2 | ⟨g, cap, cur, hv, hg, r⟩
  · exact Or.inl h2
  · exact Or.inr ⟨g, cap, cur, hv, Nat.le_trans hB hg, r⟩
/-- What the program's Bytes answers. -/
def AnsP (w : World) (g : Nat) (A : Option Addr) (cap : Nat) (b : List UInt8) (S : Nat → Prop) (r : List UInt8 × Int) (p : Nat) (e : Ending) (w' : World) : Prop :=
  ∃ A' cap', e = .returned (.tuple #[.slice A' r.1.length cap', .int .i64 r.2]) ∧ Own w' w.heap.size (.slice A' r.1.length cap') r.1 ∧ RdX w' g A cap b p S ∧ Fr S w w'
section
variable {w : World} {g cap p : Nat} {A : Option Addr} {b : List UInt8} {S : Nat → Prop}
theorem ansP_none {w1 : World} (h : RdX w g A cap b p S) (hF : Fr (fun _ => False) w w1) (z : Int) : AnsP w g A cap b S ([], z) p (.returned (.tuple #[.slice none 0 0, .int .i64 z])) w1 := ⟨none, 0, rfl, ⟨rfl, Or.inl ⟨rfl, rfl⟩⟩, h.still hF, hF.mono (fun _ _ e => e.elim)⟩
set_option maxHeartbeats 4000000 in
theorem pbytes (h : RdX w g A cap b p S) (n : Int) (hn : Big n) : Calls Try.prog 19 #[.pointer (some ⟨g, 0, none⟩), .int .i64 n] w (AnsP w g A cap b S (bytesV (bitsOf b) p n) (bytesA (bitsOf b) p n)) := by
  have HM := Lib.hid (pmissing h)
  have HX := Lib.hid h
  have hp := h.p64
  have HW := Lib.hid (fun wx => pwithin wx p true hp)
  have HL := Lib.hid (fun w1 (hF : Fr (fun _ => False) w w1) => pleft (h.still hF))
  have c0 := h.c0
  have c1 := h.c1
  by_cases h1 : n < 0
  · have HV := Lib.hid (show bytesV (bitsOf b) p n = ([], 2) ∧ bytesA (bitsOf b) p n = p by unfold bytesV bytesA; rw [if_pos (Or.inl h1), if_pos (Or.inl h1)]; exact ⟨rfl, rfl⟩)
    rw [HV.out.1, HV.out.2]
    clear h c0 c1
    go_enter Try.func19, Try.ntmps19
    go_wp2_with (go_at_call 39; refine HM.out.mono ?_; rintro e w' ⟨rfl, rfl⟩)
    go_ret2
    exact ansP_none HX.out (Fr.refl _ _) 2
  obtain ⟨N, rfl⟩ : ∃ N : Nat, n = N := ⟨n.toNat, by omega⟩
  by_cases h2 : p % 8 = 0
  case neg =>
    have HV := Lib.hid (show bytesV (bitsOf b) p N = ([], 2) ∧ bytesA (bitsOf b) p N = p by unfold bytesV bytesA; rw [if_pos (Or.inr h2), if_pos (Or.inr h2)]; exact ⟨rfl, rfl⟩)
    rw [HV.out.1, HV.out.2]
    rw [decide_eq_true h2] at HW
    clear h h2
    go_enter Try.func19, Try.ntmps19
    go_wp2_with (first
      | (go_at_call 39; refine HM.out.mono ?_; rintro e w' ⟨rfl, rfl⟩)
      | (go_at_call 42; refine (HW.out _).mono ?_; rintro e w1 ⟨rfl, hF⟩))
    go_ret2
    exact ansP_none HX.out hF 2
  case pos =>
    rw [decide_eq_false (by omega)] at HW
    have hle := h.le
    have hlen := h.len
    have hcap := h.cap
    obtain ⟨k, hk⟩ : ∃ k, k = p / 8 := ⟨_, rfl⟩
    obtain ⟨l, hl⟩ : ∃ l, l = 8 * b.length - p := ⟨_, rfl⟩
    obtain ⟨q, hq⟩ : ∃ q, q = l / 8 := ⟨_, rfl⟩
    rw [← hl] at HL
    have hdl : (l : Int) / 8 = (q : Int) := by omega
    have hbl := bitsOf_length b
    have hor : ¬ ((N : Int) < 0 ∨ p % 8 ≠ 0) := by omega
    by_cases h3 : q < N
    · have HV := Lib.hid (show bytesV (bitsOf b) p N = ([], 7) ∧ bytesA (bitsOf b) p N = p by unfold bytesV bytesA; rw [if_neg hor, if_neg hor, if_pos (by omega), if_pos (by omega)]; exact ⟨rfl, rfl⟩)
      rw [HV.out.1, HV.out.2]
      have hl50 : l ≤ 1125899906842624 := by omega
      clear h h2 hk hl hq hbl hor hle hlen hcap
      go_enter Try.func19, Try.ntmps19
      go_wp2_with (first
        | (go_at_call 39; refine HM.out.mono ?_; rintro e w' ⟨rfl, rfl⟩)
        | (go_at_call 42; refine (HW.out _).mono ?_; rintro e w1 ⟨rfl, hF⟩)
        | (go_at_call 43; refine (HL.out _ hF).mono ?_; rintro e w' ⟨rfl, nl, rfl⟩))
      go_ret2
      exact ansP_none HX.out (hF.drewN nl) 7
    · have HV := Lib.hid (show bytesV (bitsOf b) p N = ((b.drop k).take N, 0) ∧ bytesA (bitsOf b) p N = p + 8 * N by
        unfold bytesV bytesA
        rw [if_neg hor, if_neg hor, if_neg (by omega), if_neg (by omega)]
        refine ⟨?_, rfl⟩
        rw [show p = 8 * k by omega, Int.toNat_natCast, pack_part b k N (by omega)])
      rw [HV.out.1, HV.out.2]
      have hdp : (p : Int) / 8 = (k : Int) := by omega
      have hl50 : l ≤ 1125899906842624 := by omega
      have HE := Lib.hid (show ∀ w1 : World, Fr (fun _ => False) w w1 → RdA w g A cap b S (p + 8 * N) (w1.setCell ⟨g, 0, none⟩ (.int .i64 ((p : Int) + 8 * (N : Int)))) by
        intro w1 hF
        rw [show (p : Int) + 8 * (N : Int) = ((p + 8 * N : Nat) : Int) by omega]
        exact rdA_fr h hF _ (by omega))
      obtain ⟨n, hn⟩ : ∃ n, n = b.length := ⟨_, rfl⟩
      have hkN : k + N ≤ n := by omega
      have hnc : n ≤ cap := by omega
      have hn47 : n ≤ 140737488351232 := by omega
      have hsl : ∀ wx : World, (Instr.slice 22 (.slice A n cap) (some (.int .i64 (k : Int))) (some (.int .i64 ((k : Int) + (N : Int)))) none).run Try.prog wx = .ok (.slice (if cap = k then A else A.map (·.add k)) N (cap - k)) wx := fun wx => by
        rw [run_slice_lh wx 22 A n cap Try.underlying22 .i64 .i64 k (k + N) (by omega) (by omega) (by omega)]
        have hs : (sizeOf (Try.prog.elem 22)).run Try.prog wx = .ok 1 wx := by kernel_rfl
        rw [hs]
        simp only [Result.andThen, sliced, Int.toNat_natCast, Nat.mul_one, show ((k : Int) + (N : Int)).toNat = k + N by omega, Nat.add_sub_cancel_left]
      have HC := Lib.hid (fun w2 (h2 : RdX w2 g A cap b (p + 8 * N) S) => clone_any w2 (if cap = k then A else A.map (·.add k)) N (cap - k) w2.heap.size ((b.drop k).take N) ((h2.rd.drop (k := k) h2.cap).take N) (by rw [List.length_take, List.length_drop]; omega) (Nat.le_refl _) (fun e => by
        by_cases hck : cap = k
        · omega
        · rw [if_neg hck] at e
          cases A with
          | none => have := h2.nil rfl; omega
          | some a => cases e) (by omega))
      obtain ⟨A2, hA2⟩ : ∃ A2, A2 = (if cap = k then A else A.map (·.add k)) := ⟨_, rfl⟩
      obtain ⟨C2, hC2⟩ : ∃ C2, C2 = cap - k := ⟨_, rfl⟩
      rw [← hA2, ← hC2] at hsl HC
      have hT : ((b.drop k).take N).length = N := by rw [List.length_take, List.length_drop]; omega
      obtain ⟨D, hD⟩ : ∃ D, D = (b.drop k).take N := ⟨_, rfl⟩
      rw [← hD] at HC hT ⊢
      have HT := Lib.hid hT
      have h3' : ¬ q < N := h3
      have hN47 : N ≤ 140737488351232 := by omega
      have hp2 : p + 8 * N ≤ 1125899906842624 := by omega
      have HN := Lib.hid hn
      clear h h2 hk hl hq hbl hor hle hlen hcap hA2 hC2 h3 hn hT hD HV
      go_enter Try.func19, Try.ntmps19
      go_wp2_with (first
        | (go_at_call 39; refine HM.out.mono ?_; rintro e w' ⟨rfl, rfl⟩)
        | (go_at_call 42; refine (HW.out _).mono ?_; rintro e w1 ⟨rfl, hF⟩)
        | (go_at_call 43; refine (HL.out _ hF).mono ?_; rintro e w' ⟨rfl, nl, rfl⟩; have d0 := (HX.out.still (hF.drewN nl)).c0; have d2 := (HX.out.still (hF.drewN nl)).c2; have f0 := (HX.out.still (hF.drewN nl)).f0; rw [← HN.out] at d2)
        | (go_at_call 35; refine (HC.out _ (HE.out _ (hF.drewN nl)).1).mono ?_; rintro e w2 ⟨A1, cap1, rfl, ho, hF2⟩))
      go_ret2
      exact ⟨A1, cap1, rfl, ownB_low ho (Nat.le_trans hF.size (by simp [World.setCell])), (HE.out _ (hF.drewN nl)).1.still hF2, (HE.out _ (hF.drewN nl)).2.trans hF2 (fun _ _ e => e.elim)⟩
theorem rdX_new {w1 : World} {A1 : Option Addr} {cap1 : Nat} {b : List UInt8} {B : Nat} (ho : Own w1 B (.slice A1 b.length cap1) b) (hl : b.length ≤ 140737488351232) :
    RdX (w1.alloc (.cells #[.int .i64 0, .bool true, .slice A1 b.length cap1] 60)) w1.heap.size A1 cap1 b 0 (fun i => i = w1.heap.size ∨ (Value.slice A1 b.length cap1).ownBlock = some i) :=
  ⟨heap_alloc_new _ _, Or.inl rfl, fun hne => by
    have h0 : 0 < b.length := List.length_pos_iff.2 hne
    obtain ⟨g, rfl, hg, hlt, _⟩ := ho.at_ h0
    refine ⟨g, rfl, Or.inr rfl, by omega, fun j x hj => ?_⟩
    obtain ⟨g', off, e, _, hc⟩ := ho.rd hne
    cases e
    have := hc j x hj
    rw [Nat.zero_add] at this
    exact (World.cell?_of_block (w := w1) (Below.heap_alloc _ _ _ hlt)).trans this, (own_cap2 ho).1, (own_cap2 ho).2, by omega, hl, fun i hi => by
    rw [World.size_alloc]
    rcases hi with rfl | hi
    · omega
    · rcases ho.2 with ⟨e, _⟩ | ⟨g, c, cur, e, _, hh, _⟩
      · rw [e] at hi; cases hi
      · rw [e] at hi
        cases hi
        have := (Array.getElem?_eq_some_iff.1 hh).1
        show g < w1.heap.size + 1
        omega⟩
set_option maxHeartbeats 4000000 in
theorem pnew (w : World) (A : Option Addr) (cap : Nat) (b : List UInt8) (hr : Rd w w.heap.size A b) (hA : A = none → cap = 0) (hl : b.length ≤ 140737488351232) :
    Calls Try.prog 9 #[.slice A b.length cap] w fun e w' => ∃ a S, e = .returned (.pointer (some a)) ∧ PR w' a b 0 S ∧ (∀ i, S i → w.heap.size ≤ i) ∧ Fr (fun _ => False) w w' := by
  have HC0 := Lib.hid (clone_any w A b.length cap w.heap.size b hr rfl (Nat.le_refl _) hA hl)
  obtain ⟨n, hn⟩ : ∃ n, n = b.length := ⟨_, rfl⟩
  have HE := Lib.hid (show ∀ (w1 : World) (A1 : Option Addr) (cap1 : Nat), Own w1 w.heap.size (.slice A1 n cap1) b → Fr (fun _ => False) w w1 → ∃ a S, (Ending.returned (.pointer (some ⟨w1.heap.size, 0, none⟩))) = .returned (.pointer (some a)) ∧ PR (w1.alloc (.cells #[.int .i64 0, .bool true, .slice A1 n cap1] 60)) a b 0 S ∧ (∀ i, S i → w.heap.size ≤ i) ∧ Fr (fun _ => False) w (w1.alloc (.cells #[.int .i64 0, .bool true, .slice A1 n cap1] 60)) by
    intro w1 A1 cap1 ho hF
    subst hn
    refine ⟨_, _, rfl, ⟨_, _, _, rfl, rdX_new ho hl⟩, fun i hi => ?_, hF.alloc _⟩
    rcases hi with rfl | hi
    · exact hF.size
    · rcases ho.2 with ⟨e, _⟩ | ⟨g, c, cur, e, hg, _⟩
      · rw [e] at hi; cases hi
      · rw [e] at hi
        cases hi
        exact hg)
  rw [← hn] at HC0 ⊢
  have HN := Lib.hid hn
  clear hr hA hl hn
  go_enter Try.func9, Try.ntmps9
  go_wp2_with (go_at_call 35; refine HC0.out.mono ?_; rintro e w1 ⟨A1, cap1, rfl, ho, hF⟩; rw [← HN.out] at ho ⊢)
  go_ret
  exact HE.out w1 A1 cap1 ho hF
end
end Go.Proofs.Ytddkgihobcjmmaa.fl
