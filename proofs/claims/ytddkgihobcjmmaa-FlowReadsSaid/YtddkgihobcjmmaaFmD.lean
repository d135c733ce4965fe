/-
  The program's writer: Put, Code, Align, Bytes, Write.
-/
import Derived.Test.YtddkgihobcjmmaaFmC
namespace Go.Proofs.Ytddkgihobcjmmaa.fl
set_option maxRecDepth 100000
open Go.RowKit Go.Maps
set_option maxRecDepth 100000

theorem lowB_nat {n k : Int} (h : lowB n k = true) : ∃ K : Nat, k = K ∧ K ≤ 24 ∧ 0 ≤ n ∧ n < 2 ^ 24 ∧ lowL n k = lowI n K := by
  unfold lowB at h
  obtain ⟨h1, h2⟩ := Bool.and_eq_true_iff.1 h
  obtain ⟨a, b, c⟩ := (mayB_iff n k).1 h1
  refine ⟨k.toNat, by omega, by omega, c, ?_, by unfold lowL; rw [if_pos h1]⟩
  have hd := of_decide_eq_true h2
  have hp : (0 : Int) < 2 ^ k.toNat := Int.pow_pos (by omega)
  have he : (2 : Int) ^ k.toNat ≤ 2 ^ 24 := by exact_mod_cast Nat.pow_le_pow_right (n := 2) (by omega) (by omega : k.toNat ≤ 24)
  have := Int.emod_add_mul_ediv n (2 ^ k.toNat)
  rw [hd, Int.mul_zero] at this
  have := Int.emod_lt_of_pos n hp
  omega
section
variable {w : World} {g cap : Nat} {A : Option Addr} {S : Nat → Prop}
set_option maxHeartbeats 4000000 in
theorem wput {L : List Int} (h : WrM w g A cap L.length (packI L) S) (hb : AllBit L) (hl : L.length ≤ 1000000) (n k : Int) (hk : Big k) :
    Calls Try.prog 27 #[.pointer (some ⟨g, 0, none⟩), .int .i64 n, .int .i64 k] w fun e w' => e = .returned (.int .i64 (putZ n k)) ∧ WrA w g S (putL' L n k) w' := by
  have HM := Lib.hid (wmayput h n k hk)
  have hmf : ∀ (fn : Fn) (first cap : Array Value) (w : World), (Instr.makeFunc fn first cap).run Try.prog w = .ok (.func fn first cap) w := fun _ _ _ _ => rfl
  by_cases h1 : lowB n k = true
  · obtain ⟨K, rfl, hK, hn, hn2, hL⟩ := lowB_nat h1
    have HV := Lib.hid (show putZ n K = 0 by unfold putZ; rw [if_pos h1])
    have HP := Lib.hid (show putL' L n K = L ++ lowI n K by unfold putL'; rw [if_pos h1, hL])
    rw [HV.out] at HM ⊢
    rw [HP.out]
    have HB := Lib.hid (lowest_any h hb hl n K hn hn2 hK)
    clear h hb h1 hL hk
    go_enter Try.func27, Try.ntmps27
    go_wp2_with (first
      | (go_at_call 44; refine HM.out.mono ?_; rintro e w' ⟨rfl, rfl⟩)
      | (go_at_call 45; refine HB.out.mono ?_; rintro e w' ⟨⟨v, rfl⟩, HC⟩))
    go_ret
    exact ⟨rfl, HC⟩
  · have HV := Lib.hid (show putZ n k = 2 by unfold putZ; rw [if_neg h1])
    have HP := Lib.hid (show putL' L n k = L by unfold putL'; rw [if_neg h1])
    rw [HV.out] at HM ⊢
    rw [HP.out]
    have HB := Lib.hid (WrA.refl h)
    clear h hb h1 hk
    go_enter Try.func27, Try.ntmps27
    go_wp2_with (go_at_call 44; refine HM.out.mono ?_; rintro e w' ⟨rfl, rfl⟩)
    go_ret
    exact ⟨rfl, HB.out⟩
set_option maxHeartbeats 4000000 in
theorem wcode {L : List Int} (h : WrM w g A cap L.length (packI L) S) (hb : AllBit L) (hl : L.length ≤ 1000000) (n k : Int) (hk : Big k) :
    Calls Try.prog 29 #[.pointer (some ⟨g, 0, none⟩), .int .i64 n, .int .i64 k] w fun e w' => e = .returned (.int .i64 (putZ n k)) ∧ WrA w g S (codeL L n k) w' := by
  have HM := Lib.hid (wmayput h n k hk)
  have hmf : ∀ (fn : Fn) (first cap : Array Value) (w : World), (Instr.makeFunc fn first cap).run Try.prog w = .ok (.func fn first cap) w := fun _ _ _ _ => rfl
  by_cases h1 : lowB n k = true
  · obtain ⟨K, rfl, hK, hn, hn2, hL⟩ := lowB_nat h1
    have HV := Lib.hid (show putZ n K = 0 by unfold putZ; rw [if_pos h1])
    have HP := Lib.hid (show codeL L n K = L ++ (lowI n K).reverse by unfold codeL; rw [if_pos h1, hL])
    rw [HV.out] at HM ⊢
    rw [HP.out]
    have HB := Lib.hid (highest_any h hb hl n K hn hn2 hK)
    clear h hb h1 hL hk
    go_enter Try.func29, Try.ntmps29
    go_wp2_with (first
      | (go_at_call 44; refine HM.out.mono ?_; rintro e w' ⟨rfl, rfl⟩)
      | (go_at_call 47; refine HB.out.mono ?_; rintro e w' ⟨⟨v, rfl⟩, HC⟩))
    go_ret
    exact ⟨rfl, HC⟩
  · have HV := Lib.hid (show putZ n k = 2 by unfold putZ; rw [if_neg h1])
    have HP := Lib.hid (show codeL L n k = L by unfold codeL; rw [if_neg h1])
    rw [HV.out] at HM ⊢
    rw [HP.out]
    have HB := Lib.hid (WrA.refl h)
    clear h hb h1 hk
    go_enter Try.func29, Try.ntmps29
    go_wp2_with (go_at_call 44; refine HM.out.mono ?_; rintro e w' ⟨rfl, rfl⟩)
    go_ret
    exact ⟨rfl, HB.out⟩
set_option maxHeartbeats 4000000 in
theorem walign {L : List Int} (h : WrM w g A cap L.length (packI L) S) (hl : L.length ≤ 1000000) :
    Calls Try.prog 30 #[.pointer (some ⟨g, 0, none⟩)] w fun e w' => e = .returned (.int .i64 0) ∧ WrA w g S (padL L) w' := by
  obtain ⟨p, hp⟩ : ∃ p, p = L.length := ⟨_, rfl⟩
  rw [← hp] at h
  have HM := Lib.hid (wmissing h)
  have HX := Lib.hid h
  have c0 := h.c0
  have c1 := h.c1
  have f0 := h.f0
  have HR := Lib.hid (fun wx => prest wx p true (by omega))
  obtain ⟨r, hr⟩ : ∃ r, r = (8 - p % 8) % 8 := ⟨_, rfl⟩
  rw [← hr] at HR
  have hr8 : r < 8 := by omega
  have HE := Lib.hid (show ∀ w1 : World, Fr (fun _ => False) w w1 → WrA w g S (padL L) (w1.setCell ⟨g, 0, none⟩ (.int .i64 (IntKind.i64.wrap ((p : Int) + (r : Int))))) by
    intro w1 hF
    rw [wraps_i64 _ (by omega) (by omega), show (p : Int) + (r : Int) = ((p + r : Nat) : Int) by omega]
    obtain ⟨m1, m2⟩ := (h.still hF).move (p + r)
    refine ⟨A, cap, S, ?_, fun _ e => Or.inl e, (hF.mono (fun _ _ e => e.elim)).trans m2 (fun _ _ e => e)⟩
    rw [pack_pad, padL_len, show (L.length + 7) / 8 * 8 = p + r by omega]
    exact m1)
  clear h hr hp hl
  go_enter Try.func30, Try.ntmps30
  go_wp2_with (go_at_call 48; refine HM.out.mono ?_; rintro e w' ⟨rfl, rfl⟩)
  go_region_with ((go_at_call 41; refine (HR.out _).mono ?_; rintro e w1 ⟨rfl, hF⟩; have hF0 : Fr (fun _ => False) w w1 := (by first | exact (Fr.refl _ w).drew.trans hF (fun _ _ e => e) | exact ((Fr.refl _ w).drewN _).trans hF (fun _ _ e => e)); have c0' := (HX.out.still hF0).c0; have f0' := (HX.out.still hF0).f0))
  all_goals
    clear c0' f0' c0 f0
    go_wp2_with fail
    go_ret
    exact ⟨rfl, HE.out w1 hF0⟩
set_option maxHeartbeats 4000000 in
theorem pwrite (w : World) : Calls Try.prog 25 #[] w fun e w' => ∃ a S, e = .returned (.pointer (some a)) ∧ PV w' a [] S ∧ (∀ i, S i → w.heap.size ≤ i) ∧ Fr (fun _ => False) w w' := by
  have HE := Lib.hid (show PV (w.alloc (.cells #[.int .i64 0, .bool true, .slice none 0 0] 61)) ⟨w.heap.size, 0, none⟩ [] (fun i => i = w.heap.size) from
    ⟨w.heap.size, none, 0, rfl, ⟨heap_alloc_new _ _, rfl, ⟨rfl, Or.inl ⟨rfl, rfl⟩⟩, (fun _ _ e => by cases e), (fun _ _ _ e => by cases e), (fun i hi => by rw [World.size_alloc, hi]; omega)⟩, (fun x hx => by cases hx)⟩)
  have HF := Lib.hid ((Fr.refl (fun _ => False) w).alloc (.cells #[.int .i64 0, .bool true, .slice none 0 0] 61))
  go_enter Try.func25, Try.ntmps25
  go_wp2_with fail
  go_ret
  exact ⟨_, _, rfl, HE.out, fun i hi => by rw [hi]; exact Nat.le_refl _, HF.out⟩
end
/-- What an append of bytes leaves. -/
theorem wr_append {w w1 w2 : World} {g p m nd cap : Nat} {A : Option Addr} {S : Nat → Prop} {B d : List UInt8} {v2 : Value} (h : WrM w g A cap p B S) (hF : Fr (fun _ => False) w w1) (hm : m = B.length) (hd : nd = d.length) (hown : w2.ownsRow 0 5 1 v2 (m + nd) (bs B ++ bs d))
    (hg : w1.grownBy w2 (Value.slice A m cap).ownBlock) (hat : v2.ownBlock = (Value.slice A m cap).ownBlock ∨ v2.ownBlock = some w1.heap.size) :
    ∃ A2 cap2, v2 = .slice A2 (m + nd) cap2 ∧ w2.cell? ⟨g, 2, none⟩ = some (.slice A m cap) ∧ w2.frozen? ⟨g, 2, none⟩ = false ∧ w2.cell? ⟨g, 0, none⟩ = some (.int .i64 (p : Int)) ∧ w2.frozen? ⟨g, 0, none⟩ = false ∧ Hid (∃ T, WrM (w2.setCell ⟨g, 2, none⟩ (.slice A2 (m + nd) cap2)) g A2 cap2 p (B ++ d) T ∧ (∀ i, T i → S i ∨ w.heap.size ≤ i) ∧ Fr S w (w2.setCell ⟨g, 2, none⟩ (.slice A2 (m + nd) cap2))) := by
  obtain ⟨A2, cap2, rfl, h1, h2⟩ := (h.still hF).grow (B' := B ++ d) (by rw [List.length_append, hm, hd]) (by rw [bs_append]) hown hg hat
  have hb := (hg.block g ((h.still hF).low g h.own) (fun e => h.off m cap e.symm)).trans (h.still hF).blk
  refine ⟨A2, cap2, rfl, by rw [cellAt hb, hm]; rfl, freeAt hb 2, (cellAt hb 0).trans rfl, freeAt hb 0, ⟨_, h1, fun i hi => ?_, (hF.mono (fun _ _ e => e.elim)).trans h2 (fun _ _ e => e)⟩⟩
  rcases hi with hi | hi
  · exact Or.inl hi
  · exact Or.inr (Nat.le_trans hF.size hi.1)
section
variable {w : World} {g cap : Nat} {A : Option Addr} {S : Nat → Prop}
set_option maxHeartbeats 4000000 in
theorem wbytes {L : List Int} (h : WrM w g A cap L.length (packI L) S) (hl : L.length ≤ 1000000) (Ad : Option Addr) (cd : Nat) (d : List UInt8) (hr : Rd w w.heap.size Ad d) (hA : Ad = none → cd = 0) (hd : d.length ≤ 1000) :
    Calls Try.prog 31 #[.pointer (some ⟨g, 0, none⟩), .slice Ad d.length cd] w fun e w' => e = .returned (.int .i64 (wbZ L)) ∧ WrA w g S (wbL L d) w' := by
  obtain ⟨p, hp⟩ : ∃ p, p = L.length := ⟨_, rfl⟩
  have HA0 := Lib.hid (WrA.refl h)
  rw [← hp] at h
  have HM := Lib.hid (wmissing h)
  have HX := Lib.hid h
  have HW := Lib.hid (fun wx => pwithin wx p true (by omega))
  have c0 := h.c0
  have c1 := h.c1
  obtain ⟨nd, hnd⟩ : ∃ nd, nd = d.length := ⟨_, rfl⟩
  have HND := Lib.hid hnd
  rw [← hnd] at hd ⊢
  have hp9 : p ≤ 1000000 := by omega
  by_cases h0 : p % 8 = 0
  case neg =>
    have HV := Lib.hid (show wbZ L = 2 ∧ wbL L d = L by unfold wbZ wbL; rw [if_neg (by omega), if_neg (by omega)]; exact ⟨rfl, rfl⟩)
    rw [HV.out.1, HV.out.2]
    rw [decide_eq_true h0] at HW
    clear h h0 hp hr hA hnd
    go_enter Try.func31, Try.ntmps31
    go_wp2_with (first
      | (go_at_call 48; refine HM.out.mono ?_; rintro e w' ⟨rfl, rfl⟩)
      | (go_at_call 42; refine (HW.out _).mono ?_; rintro e w1 ⟨rfl, hF⟩))
    go_ret
    exact ⟨rfl, HA0.out.still hF⟩
  case pos =>
    have HV := Lib.hid (show wbZ L = 0 ∧ wbL L d = L ++ bitsOf d by unfold wbZ wbL; rw [if_pos (by omega), if_pos (by omega)]; exact ⟨rfl, rfl⟩)
    rw [HV.out.1, HV.out.2]
    rw [decide_eq_false (by omega)] at HW
    obtain ⟨m, hm⟩ : ∃ m, m = (packI L).length := ⟨_, rfl⟩
    have hm9 : m ≤ 1000000 := by rw [hm, packI_length]; omega
    have HMM := Lib.hid hm
    have HE := Lib.hid (show packI (L ++ bitsOf d) = packI L ++ d ∧ (L ++ bitsOf d).length = p + 8 * nd by
      exact ⟨pack_bytes d (by omega), by rw [List.length_append, bitsOf_length, ← hp, ← hnd]⟩)
    obtain ⟨i0, hi, hz0, hz1, hz2⟩ := info_parts infoB
    have HI := Lib.hid (⟨hi, hz0, hz1, hz2⟩ : _ ∧ _ ∧ _ ∧ _)
    -- what is left behind the append
    have HZ := Lib.hid (show ∀ (w3 : World) (A2 : Option Addr) (cap2 : Nat) (T : Nat → Prop), WrM w3 g A2 cap2 p (packI L ++ d) T → (∀ i, T i → S i ∨ w.heap.size ≤ i) → Fr S w w3 → WrA w g S (L ++ bitsOf d) (w3.setCell ⟨g, 0, none⟩ (.int .i64 ((p : Int) + 8 * (nd : Int)))) by
      intro w3 A2 cap2 T h3 hT hF3
      rw [show (p : Int) + 8 * (nd : Int) = ((p + 8 * nd : Nat) : Int) by omega]
      obtain ⟨m1, m2⟩ := h3.move (p + 8 * nd)
      refine ⟨A2, cap2, T, by rw [HE.out.1, HE.out.2]; exact m1, hT, hF3.trans m2 (fun i hi e => (hT i e).elim id (fun e2 => absurd hi (by omega)))⟩)
    cases Ad with
    | none =>
      obtain rfl : cd = 0 := hA rfl
      have hd0 : d = [] := by
        apply Decidable.byContradiction
        intro hne
        obtain ⟨_, _, e, _⟩ := hr hne
        cases e
      obtain rfl : nd = 0 := by rw [hnd, hd0]; rfl
      have HD := Lib.hid hd0
      have HG := Lib.hid (fun w1 hF => wr_append (v2 := .slice A m cap) (d := []) (nd := 0) (w2 := w1) (w1 := w1) h hF hm rfl (by rw [Nat.add_zero, show bs [] = [] from rfl, List.append_nil, hm]; exact (h.still hF).row) ⟨rfl, rfl, rfl, Nat.le_refl _, fun _ _ _ => rfl⟩ (Or.inl rfl))
      clear h h0 hp hr hA hnd hi hz0 hz1 hz2 hm hd0
      go_enter Try.func31, Try.ntmps31
      go_wp2_with (first
        | (go_at_call 48; refine HM.out.mono ?_; rintro e w' ⟨rfl, rfl⟩)
        | (go_at_call 42; refine (HW.out _).mono ?_; rintro e w1 ⟨rfl, hF⟩; have d0 := (HX.out.still hF).c0; have d2 := (HX.out.still hF).c2; have f2 := (HX.out.still hF).f2; have f0 := (HX.out.still hF).f0; rw [← HMM.out] at d2; have HF := Lib.hid hF; clear hF)
        | (at_builtin; refine wpList_append_own_none rfl (.tmp 18) (.tmp 19) 22 rfl 0 5 i0 1 Try.underlying22 HI.out.1 _ m (bs (packI L)) rfl (by rw [HMM.out]; exact (HX.out.still HF.out).row) rfl ?_))
      obtain ⟨A2, cap2, hv, -, -, -, -, HG2⟩ := HG.out w1 HF.out
      cases hv
      obtain ⟨T, h3, hT, hF3⟩ := HG2
      have HQ := Lib.hid (show WrA w g S (L ++ bitsOf d) ((w1.setCell ⟨g, 2, none⟩ (.slice A m cap)).setCell ⟨g, 0, none⟩ (.int .i64 (p : Int))) by simpa using HZ.out _ A cap T (by rw [HD.out]; exact h3) hT hF3)
      clear h3 hT hF3 HZ HG
      go_ret
      exact ⟨rfl, HQ.out⟩
    | some ad =>
      have HR := Lib.hid hr
      clear h h0 hp hr hA hnd hi hz0 hz1 hz2 hm
      go_enter Try.func31, Try.ntmps31
      go_wp2_with (first
        | (go_at_call 48; refine HM.out.mono ?_; rintro e w' ⟨rfl, rfl⟩)
        | (go_at_call 42; refine (HW.out _).mono ?_; rintro e w1 ⟨rfl, hF⟩; have d0 := (HX.out.still hF).c0; have d2 := (HX.out.still hF).c2; have f2 := (HX.out.still hF).f2; have f0 := (HX.out.still hF).f0; rw [← HMM.out] at d2; have HF := Lib.hid hF; clear hF)
        | (at_builtin; refine wpList_append_own_at _ rfl (.tmp 18) (.tmp 19) 22 rfl 0 5 i0 (.int .u8 0) 1 1 Try.underlying22 HI.out.1 HI.out.2.1 HI.out.2.2.1 HI.out.2.2.2 rfl (by omega) _ m (bs (packI L)) rfl (by rw [HMM.out]; exact (HX.out.still HF.out).row) ad nd cd (bs d) rfl (by rw [bs_length, ← HND.out, Nat.mul_one]) (HR.out.still HF.out (Nat.le_refl _)).src (bs_one d) (by unfold maxLen; omega) (by omega) (Nat.zero_le _) ?_; intro v2 w2 hown hg _ hat; obtain ⟨A2, cap2, hv, e2, g2, e0, g0, HG⟩ := wr_append HX.out HF.out HMM.out HND.out hown hg hat; subst hv; clear hown hg hat))
      go_ret
      obtain ⟨T, h3, hT, hF3⟩ := HG.out
      exact ⟨rfl, HZ.out _ A2 cap2 T h3 hT hF3⟩
end
end Go.Proofs.Ytddkgihobcjmmaa.fl
