/-
  The program's codes: missing, Word, Symbols, Write, Room.
-/
import Derived.Test.YtcdhakfmljjaoaaGreatDoorJG
import Derived.BigQuiet
namespace Go.Proofs.YtcdhakfmljjaoaaGreatDoor.cd
set_option maxRecDepth 100000
open Go.RowKit Go.Maps Go.Proofs.YtcdhakfmljjaoaaGreatDoor.fl
set_option maxRecDepth 100000

section
variable {w : World} {g gw gs : Nat} {l sy : List Int} {S : Nat → Prop}
theorem CodM.inb (h : CodM w g gw gs l sy S) : inB l = true := (inB_iff l).2 ((okB_iff l).1 h.ok).2.1
set_option maxHeartbeats 1000000 in
theorem pmissing (h : CodM w g gw gs l sy S) : Calls Tryz.prog 134 #[.pointer (some ⟨g, 0, none⟩)] w fun e w' => e = .returned (.bool false) ∧ w = w' := by
  have c0 := h.reach
  have h1 := most_in h.inb
  obtain ⟨z, hz⟩ : ∃ z, z = mostW (wordsL l) := ⟨_, rfl⟩
  rw [← hz] at c0 h1
  have hz0 : ((z : Int) == 0) = false := by rw [beq_eq_false_iff_ne]; omega
  clear hz h
  go_enter Tryz.func134, Tryz.ntmps134
  go_wp2_with fail
  go_ret
  exact ⟨rfl, rfl⟩
theorem symV_no {l : List Int} {s : Int} (h : hasB l s = false) : symV l s = (0, 0, 5) := by
  unfold symV
  rw [h]
  rfl
set_option maxHeartbeats 2000000 in
theorem pword (h : CodM w g gw gs l sy S) (s : Int) (hs : Big s) : Calls Tryz.prog 122 #[.pointer (some ⟨g, 0, none⟩), .int .i64 s] w fun e w' => e = .returned (.tuple #[.int .i64 (symV l s).1, .int .i64 (symV l s).2.1, .int .i64 (symV l s).2.2]) ∧ Fr (fun _ => False) w w' := by
  have HM := Lib.hid (pmissing h)
  have c17 := h.words
  by_cases h1 : s < 0
  · have hv := symV_no (l := l) (s := s) (by unfold hasB; rw [decide_eq_false (by omega)]; rfl)
    rw [hv]
    clear h hv
    go_enter Tryz.func122, Tryz.ntmps122
    go_wp2_with (go_at_call 134; refine HM.out.mono ?_; rintro e w' ⟨rfl, rfl⟩)
    go_ret3
    exact ⟨rfl, Fr.refl _ _⟩
  obtain ⟨i, rfl⟩ : ∃ i : Nat, s = i := ⟨s.toNat, by omega⟩
  by_cases h2 : l.length ≤ i
  · have hv := symV_no (l := l) (s := (i : Int)) (by unfold hasB; rw [decide_eq_false (p := (i : Int) < l.length) (by omega), Bool.and_false]; rfl)
    rw [hv]
    obtain ⟨n, hn⟩ : ∃ n, n = l.length := ⟨_, rfl⟩
    rw [← hn] at c17 h2
    clear h hv hn
    go_enter Tryz.func122, Tryz.ntmps122
    go_wp2_with (go_at_call 134; refine HM.out.mono ?_; rintro e w' ⟨rfl, rfl⟩)
    go_ret3
    exact ⟨rfl, Fr.refl _ _⟩
  have hi : i < l.length := by omega
  obtain ⟨p0, p1⟩ := h.word_at hi
  have hi0 : (0 : Int) ≤ (i : Int) := by omega
  have hin : (i : Int) < (l.length : Int) := by omega
  by_cases h3 : 0 < lenN l i
  · have hh : hasB l (i : Int) = true := (hasB_iff l i).2 ⟨by omega, by omega, by rw [Int.toNat_natCast]; exact h3⟩
    have hv : symV l (i : Int) = ((wordN l i : Int), (lenN l i : Int), (0 : Int)) := by unfold symV; rw [if_pos hh, Int.toNat_natCast]
    have hw : wdI l i = ((wordN l i : Int), (lenN l i : Int)) := by unfold wdI; rw [if_pos h3]
    rw [hw] at p0 p1
    rw [hv]
    obtain ⟨n, hn⟩ : ∃ n, n = l.length := ⟨_, rfl⟩
    obtain ⟨c, hc⟩ : ∃ c, c = wordN l i := ⟨_, rfl⟩
    obtain ⟨d, hd⟩ : ∃ d, d = lenN l i := ⟨_, rfl⟩
    rw [← hn] at c17 hin
    rw [← hc] at p0 ⊢
    rw [← hd] at p1 h3 ⊢
    have hd0 : ((d : Int) == 0) = false := by rw [beq_eq_false_iff_ne]; omega
    have HF := Lib.hid ((Fr.refl (fun _ => False) w).alloc (.cells #[.int .i64 (c : Int), .int .i64 (d : Int)] 163)).drew
    clear h hv hw hh hn hc hd hi h2
    go_enter Tryz.func122, Tryz.ntmps122
    go_wp2_with (go_at_call 134; refine HM.out.mono ?_; rintro e w' ⟨rfl, rfl⟩)
    go_region
    all_goals
      go_wp2_with fail
      go_ret3
      exact ⟨rfl, HF.out⟩
  · have hl : lenN l i = 0 := by omega
    have hv := symV_no (l := l) (s := (i : Int)) (by unfold hasB; rw [Int.toNat_natCast, decide_eq_false h3, Bool.and_false])
    have hw : wdI l i = (0, 0) := by unfold wdI; rw [if_neg h3]
    rw [hw] at p0 p1
    rw [hv]
    obtain ⟨n, hn⟩ : ∃ n, n = l.length := ⟨_, rfl⟩
    rw [← hn] at c17 hin
    clear h hv hw hn hi h2 hl h3
    go_enter Tryz.func122, Tryz.ntmps122
    go_wp2_with (go_at_call 134; refine HM.out.mono ?_; rintro e w' ⟨rfl, rfl⟩)
    go_ret3
    exact ⟨rfl, Fr.refl _ _⟩
set_option maxHeartbeats 1000000 in
theorem pwrite_code {R : RP} {V : VP} (HF : FlowP R V) (h : CodM w g gw gs l sy S) (a : Addr) (L : List Int) (T : Nat → Prop) (s : Int) (hv : V w a L T) (hL : L.length ≤ 3900000) (hs : Big s) :
    Calls Tryz.prog 101 #[.pointer (some ⟨g, 0, none⟩), .pointer (some a), .int .i64 s] w fun e w' => e = .returned (.int .i64 (symZ l s)) ∧ VAft V w a T (symL l s L) w' := by
  have HW := Lib.hid (pword h s hs)
  cases hb : hasB l s with
  | false =>
    rw [symV_no hb] at HW
    have hz : symZ l s = 5 := by unfold symZ; rw [hb]; rfl
    have hl : symL l s L = L := by unfold symL; rw [hb]; rfl
    rw [hz, hl]
    have HV := Lib.hid (⟨hv, HF⟩ : _ ∧ _)
    clear h hb hz hl hv HF
    go_enter Tryz.func101, Tryz.ntmps101
    go_wp2_with (go_at_call 122; refine HW.out.mono ?_; rintro e w1 ⟨rfl, hF1⟩; have HF1 := Lib.hid hF1; clear hF1)
    go_ret
    exact ⟨rfl, T, HV.out.2.v_keep HV.out.1 HF1.out (fun _ _ e => e), fun _ e => Or.inl e, HF1.out.mono (fun _ _ e => e.elim)⟩
  | true =>
    obtain ⟨h1, h2, h3⟩ := (hasB_iff l s).1 hb
    obtain ⟨i, rfl⟩ : ∃ i : Nat, s = i := ⟨s.toNat, by omega⟩
    rw [Int.toNat_natCast] at h3
    have hv2 : symV l (i : Int) = ((wordN l i : Int), (lenN l i : Int), (0 : Int)) := by unfold symV; rw [if_pos hb, Int.toNat_natCast]
    rw [hv2] at HW
    have H := word_has (l := l) (fun x hx => ((okB_iff l).1 h.ok).2.1 x hx |>.1) (i := i) (by omega) (fun e => by
      have := congrArg List.length e
      rw [wordB_length] at this
      simp at this
      omega)
    have hl15 := lenN_le15 h.inb i
    have hsm := H.small (by have := ((okB_iff l).1 h.ok).2.2; omega) hl15
    have hlow : lowB (wordN l i : Nat) (lenN l i : Nat) = true := by
      unfold lowB
      rw [(mayB_iff _ _).2 ⟨by omega, by omega, by omega⟩, Bool.true_and, Int.toNat_natCast]
      apply decide_eq_true
      exact Int.ediv_eq_zero_of_lt (by omega) (by exact_mod_cast hsm)
    have hz : symZ l (i : Int) = 0 := by unfold symZ; rw [if_pos hb]
    have hl : symL l (i : Int) L = codeL L (wordN l i : Nat) (lenN l i : Nat) := by
      unfold symL codeL
      rw [if_pos hb, if_pos hlow, Int.toNat_natCast]
      unfold wordB lowL
      rw [if_pos ((mayB_iff _ _).2 ⟨by omega, by omega, by omega⟩), Int.toNat_natCast]
    have hp : putZ (wordN l i : Nat) (lenN l i : Nat) = 0 := by unfold putZ; rw [if_pos hlow]
    have hw15 : wordN l i < 2 ^ 15 := Nat.lt_of_lt_of_le hsm (Nat.pow_le_pow_right (by omega) hl15)
    have HC := Lib.hid (show ∀ w1, Fr (fun _ => False) w w1 → Calls Tryz.prog 123 #[.pointer (some a), .int .i64 (wordN l i : Nat), .int .i64 (lenN l i : Nat)] w1 fun e w' => e = .returned (.int .i64 0) ∧ VAft V w a T (symL l (i : Int) L) w' from fun w1 hF1 => by
      have := HF.code w1 a L T (wordN l i : Nat) (lenN l i : Nat) (HF.v_keep hv hF1 (fun _ _ e => e)) (by omega) (by omega) (by omega)
      rw [hp, ← hl] at this
      refine this.mono fun e w' ⟨e1, T', e2, e3, e4⟩ => ⟨e1, T', e2, fun j hj => (e3 j hj).imp id (fun h => Nat.le_trans hF1.size h), (hF1.mono (S := T) (fun _ _ e => e.elim)).trans e4 (fun _ _ e => e)⟩)
    rw [hz]
    obtain ⟨Z, hZ⟩ : ∃ Z, Z = symL l (i : Int) L := ⟨_, rfl⟩
    obtain ⟨c, hc⟩ : ∃ c, c = wordN l i := ⟨_, rfl⟩
    obtain ⟨d, hd⟩ : ∃ d, d = lenN l i := ⟨_, rfl⟩
    rw [← hZ, ← hc, ← hd] at HC
    rw [← hc, ← hd] at HW
    rw [← hZ]
    clear h hb hz hl hv HF hp hlow hsm hl15 H hv2 h1 h2 h3 hZ hc hd hw15
    go_enter Tryz.func101, Tryz.ntmps101
    go_wp2_with (first
      | (go_at_call 122; refine HW.out.mono ?_; rintro e w1 ⟨rfl, hF1⟩; have HF1 := Lib.hid hF1; clear hF1)
      | (go_at_call 123; refine (HC.out _ HF1.out).mono ?_; rintro e w2 ⟨rfl, hv2⟩; have HV2 := Lib.hid hv2; clear hv2))
    go_ret
    exact ⟨rfl, HV2.out⟩
end
end Go.Proofs.YtcdhakfmljjaoaaGreatDoor.cd
