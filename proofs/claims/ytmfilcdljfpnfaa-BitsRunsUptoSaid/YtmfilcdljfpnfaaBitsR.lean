/-
  Runs, the program's and the document's.
-/
import Derived.Test.YtmfilcdljfpnfaaBitsC
import Derived.Test.YtmfilcdljfpnfaaByI
namespace Go.Proofs.Ytmfilcdljfpnfaa
open Go.RowKit Go.Maps

theorem runs_in (l : List UInt8) (k : Nat) : ∀ x ∈ runsTo l k, 0 ≤ x ∧ x ≤ (k : Int) := by
  induction k with
  | zero => intro x hx; simp [runsTo] at hx; omega
  | succ k ih =>
    intro x hx
    have hg : ∀ y ∈ grow (runsTo l k) (bitB l k), 0 ≤ y ∧ y ≤ (k : Int) := by
      intro y hy
      unfold grow at hy
      split at hy
      · rcases List.mem_append.1 hy with h | h
        · exact ih y h
        · simp at h; omega
      · exact ih y hy
    rw [runsTo] at hx
    unfold bump at hx
    rcases List.mem_or_eq_of_mem_set hx with h | h
    · have := hg x h; omega
    · have hl : (grow (runsTo l k) (bitB l k)).length - 1 < (grow (runsTo l k) (bitB l k)).length := by
        have := grow_length (runsTo l k) (bitB l k); have := runsTo_length l k; omega
      rw [List.getD_eq_getElem?_getD, List.getElem?_eq_getElem hl, Option.getD_some] at h
      have := hg _ (List.getElem_mem hl)
      omega
/-- What Runs tells. -/
def runsOf (l : List UInt8) (S : Nat) : List Int := if S = 0 then [] else runsTo l S
theorem runsOf_zero (l : List UInt8) : runsOf l 0 = [] := rfl
theorem runsOf_pos (l : List UInt8) {S : Nat} (h : S ≠ 0) : runsOf l S = runsTo l S := if_neg h
theorem runsOf_in (l : List UInt8) (S : Nat) (hS : S ≤ 4398046511104) : ∀ x ∈ runsOf l S, -9223372036854775808 ≤ x ∧ x ≤ 9223372036854775807 := by
  intro x hx
  unfold runsOf at hx
  split at hx
  · cases hx
  · have := runs_in l S x hx; omega
theorem runsOf_length (l : List UInt8) (S : Nat) : (runsOf l S).length ≤ S + 1 := by
  unfold runsOf
  split
  · simp
  · exact (runsTo_length l S).2

/-- New numbers. -/
def NewI (w : World) (l : List Int) (e : Ending) (w' : World) : Prop :=
  ∃ A cap, e = .returned (.slice A l.length cap) ∧ OwnI w' w.heap.size (.slice A l.length cap) l ∧ Fr (fun _ => False) w w'
/-- Numbers of the call's own, and that all else stands. -/
def RunR (w wr : World) (v : Value) (R : List Int) : Prop := OwnI wr w.heap.size v R ∧ Fr (fun _ => False) w wr

theorem RunR.step {w wr : World} {A : Option Addr} {cap : Nat} {R : List Int} (h : RunR w wr (.slice A R.length cap) R) {i : Nat} (hi : i < R.length) :
    ∃ g, A = some ⟨g, 0, none⟩ ∧ wr.cell? ⟨g, i, none⟩ = some (.int .i64 R[i]) ∧ wr.frozen? ⟨g, i, none⟩ = false ∧ ∀ c : Int, RunR w (wr.setCell ⟨g, i, none⟩ (.int .i64 c)) (.slice A (R.set i c).length cap) (R.set i c) := by
  obtain ⟨g, hg, hb, hlt, hc, hf, hs⟩ := h.1.at_ hi
  exact ⟨g, hg, hc, hf, fun c => ⟨hs c, h.2.setCell (Or.inr hb) _⟩⟩
/-- The last one, one more. -/
theorem RunR.upped {w wr : World} {A : Option Addr} {cap L : Nat} {R : List Int} (h : RunR w wr (.slice A (L + 1) cap) R) (hL : R.length = L + 1) :
    ∃ g x, A = some ⟨g, 0, none⟩ ∧ wr.cell? ⟨g, L, none⟩ = some (.int .i64 x) ∧ wr.frozen? ⟨g, L, none⟩ = false ∧ x ∈ R ∧ RunR w (wr.setCell ⟨g, L, none⟩ (.int .i64 (x + 1))) (.slice A (L + 1) cap) (bump R) := by
  rw [← hL] at h
  have hlt : L < R.length := by omega
  obtain ⟨g, hg, hc, hf, hs⟩ := h.step hlt
  have hm := List.getElem_mem hlt
  have hx := List.getElem?_eq_getElem hlt
  generalize R[L] = x at hc hm hx
  refine ⟨g, x, hg, hc, hf, hm, ?_⟩
  have h1 := hs (x + 1)
  have h2 : R.set L (x + 1) = bump R := by
    have hL1 : R.length - 1 = L := by omega
    unfold bump
    rw [hL1, List.getD_eq_getElem?_getD, hx, Option.getD_some]
  rw [h2, bump_length, hL] at h1
  exact h1

theorem grow_yes (l : List UInt8) (j : Nat) {K : Nat} (hK : (runsTo l j).length = K + 1) (h : (bitI l j == ((K : Int) + 1) % 2) = true) : grow (runsTo l j) (bitB l j) = runsTo l j ++ [0] := by
  unfold grow
  rw [if_pos]
  rw [hK]
  rw [beq_iff_eq] at h
  unfold bitI at h
  cases hb : bitB l j
  · rw [hb] at h
    simp at h
    exact (decide_eq_false (by omega)).symm
  · rw [hb] at h
    simp at h
    exact (decide_eq_true (by omega)).symm
theorem grow_no (l : List UInt8) (j : Nat) {K : Nat} (hK : (runsTo l j).length = K + 1) (h : (bitI l j == ((K : Int) + 1) % 2) = false) : grow (runsTo l j) (bitB l j) = runsTo l j := by
  unfold grow
  rw [if_neg]
  rw [hK]
  have h1 := bne_iff_ne.1 (show (bitI l j != ((K : Int) + 1) % 2) = true by unfold bne; rw [h]; rfl)
  unfold bitI at h1
  cases hb : bitB l j
  · rw [hb] at h1
    simp at h1
    intro e
    have := of_decide_eq_false e.symm
    omega
  · rw [hb] at h1
    simp at h1
    intro e
    have := of_decide_eq_true e.symm
    omega

set_option maxRecDepth 100000 in
set_option maxHeartbeats 2000000 in
theorem runs_any (w : World) (A : Option Addr) (n cap B : Nat) (m : Int) (l : List UInt8) (hr : Rd w B A l) (hn : l.length = n) (hB : B ≤ w.heap.size) (hl : n ≤ 549755813888) :
    Calls Try.prog 25 #[.slice A n cap, .int .i64 m] w (NewI w (runsOf l (spanN n m))) := by
  have HR := Lib.hid hr
  have HN := Lib.hid hn
  have HB := Lib.hid hB
  have hsp := spanN_le n m
  have HS := Lib.hid (fun w => span_any w A n cap m (by omega))
  generalize spanN n m = S at hsp HS ⊢
  obtain ⟨i0, hi, hz0, hz1, hz2⟩ := info_parts infoI
  have HI := Lib.hid (⟨hi, hz0, hz1, hz2⟩ : _ ∧ _ ∧ _ ∧ _)
  clear hr hn hB hi hz0 hz1 hz2
  by_cases hS : S = 0
  · subst hS
    go_enter Try.func25, Try.ntmps25
    go_wp2_with (go_at_call 35; refine (HS.out _).mono ?_; rintro e w' ⟨rfl, rfl⟩)
    go_ret
    exact ⟨none, 0, rfl, ⟨rfl, Or.inl ⟨rfl, rfl⟩⟩, Fr.refl _ _⟩
  · have HS0 := Lib.hid (runsOf_pos l hS)
    have hS1 : ((S : Int) == 0) = false := by rw [beq_eq_false_iff_ne]; omega
    have H0 := Lib.hid (show RunR w (w.alloc (.cells #[.int .i64 0] 3)) (.slice (some ⟨w.heap.size, 0, none⟩) 1 1) (runsTo l 0) from ⟨ownI_made w [0] (by unfold maxLen; simp), (Fr.refl _ w).alloc _⟩)
    go_enter Try.func25, Try.ntmps25
    go_wp2_with (go_at_call 35; refine (HS.out _).mono ?_; rintro e w' ⟨rfl, rfl⟩)
    clear hS hS1
    go_loopw [5, 6, 15] (fun v _ i wr => ∃ j K : Nat, j ≤ S ∧ K ≤ j ∧ i = .int .i64 j ∧ ∃ A1 cap1, v = .slice A1 (K + 1) cap1 ∧ Hid ((runsTo l j).length = K + 1 ∧ RunR w wr (.slice A1 (K + 1) cap1) (runsTo l j))) (fun _ _ i _ => S - (intOf i).toNat)
    case atStart => exact ⟨0, 0, Nat.zero_le _, Nat.zero_le _, rfl, _, 1, rfl, (show _ ∧ _ from ⟨rfl, H0.out⟩)⟩
    case round =>
      obtain ⟨j, K, hj, hKj, rfl, A1, cap1, rfl, HP⟩ := hrel
      clear H0
      by_cases hlt : j < S
      · have HBt := Lib.hid (bit_any wr A n cap B j l (HR.out.still HP.out.2.2 HB.out) HN.out (by omega) (by omega))
        cases hz : (bitI l j == ((K : Int) + 1) % 2) with
        | true =>
          have HG := Lib.hid (show runsTo l (j + 1) = bump (runsTo l j ++ [0]) by rw [runsTo, grow_yes l j HP.out.1 hz])
          generalize bitI l j = z at hz HBt
          have hown0 : wr.ownsRow w.heap.size 3 1 (.slice A1 (K + 1) cap1) (K + 1) (is (runsTo l j)) := by have h := HP.out.2.1; unfold OwnI at h; rw [HP.out.1] at h; exact h
          have HO := Lib.hid hown0
          clear hown0
          go_wp2_with (first
            | (go_at_call 33; refine HBt.out.mono ?_; rintro e w' ⟨rfl, rfl⟩)
            | (at_builtin; refine wpList_append_own _ rfl (.tmp 25) (.tmp 26) 38 rfl w.heap.size 3 i0 (.int .i64 0) 1 8 Try.underlying38 HI.out.1 HI.out.2.1 HI.out.2.2.1 HI.out.2.2.2 rfl (by omega) _ (K + 1) (is (runsTo l j)) rfl (HO.out.alloc _) ⟨wr.heap.size, 0, none⟩ 1 1 (is [0]) rfl ?c1 ?c2 (is_one _) ?c3 ?c4 ?c5 ?c6))
          case c1 => rfl
          case c2 =>
            intro q u hu
            rw [add_plain]
            have hq : q < 1 := (List.getElem?_eq_some_iff.1 hu).1
            obtain rfl : q = 0 := by omega
            rw [cellAt (heap_alloc_new _ _)]
            exact hu
          case c3 => unfold maxLen; omega
          case c4 => omega
          case c5 => have := HP.out.2.2.size; simp; omega
          case c6 =>
            intro v' w2 hown hgrow hnil
            have hfr := (HP.out.2.2.alloc _).grown hgrow (fun k hk => by
              rcases HO.out.2 with ⟨e, _⟩ | ⟨g, cap', cur, e, hg, _⟩
              · rw [e] at hk; cases hk
              · rw [e] at hk; cases hk; exact Or.inr hg)
            obtain ⟨A2, cap2, rfl, ho⟩ := OwnI.shape (l := runsTo l j ++ [0]) (by rw [List.length_append, HP.out.1]; rfl) (by rw [is_append]) hown
            have hlen : (runsTo l j ++ [0]).length = K + 1 + 1 := by rw [List.length_append, HP.out.1]; rfl
            rw [hlen] at ho ⊢
            have hR : RunR w w2 (.slice A2 (K + 1 + 1) cap2) (runsTo l j ++ [0]) := ⟨ho, hfr⟩
            obtain ⟨g, x, rfl, hc, hf, hx, hup⟩ := hR.upped hlen
            have hxx : 0 ≤ x ∧ x ≤ (j : Int) := by
              rcases List.mem_append.1 hx with h | h
              · exact runs_in l j x h
              · simp at h; omega
            obtain ⟨hx1, hx2⟩ := hxx
            have HU := Lib.hid hup
            have HL := Lib.hid (show (runsTo l (j + 1)).length = K + 1 + 1 by rw [HG.out, bump_length, hlen])
            clear hown hgrow hnil hfr ho hlen hR hx hup
            go_wp2_with fail
            go_roundw
            case rel => exact ⟨j + 1, K + 1, by omega, by omega, by go_num, _, cap2, rfl, (show _ ∧ _ from ⟨HL.out, by rw [HG.out]; exact HU.out⟩)⟩
            case measure => simp [intOf]; omega
        | false =>
          have HG := Lib.hid (show runsTo l (j + 1) = bump (runsTo l j) by rw [runsTo, grow_no l j HP.out.1 hz])
          generalize bitI l j = z at hz HBt
          obtain ⟨g, x, rfl, hc, hf, hx, hup⟩ := HP.out.2.upped HP.out.1
          obtain ⟨hx1, hx2⟩ := runs_in l j x hx
          have HU := Lib.hid hup
          have HL := Lib.hid (show (runsTo l (j + 1)).length = K + 1 by rw [HG.out, bump_length, HP.out.1])
          clear hx hup
          go_wp2_with (go_at_call 33; refine HBt.out.mono ?_; rintro e w' ⟨rfl, rfl⟩)
          go_roundw
          case rel => exact ⟨j + 1, K, by omega, by omega, by go_num, _, cap1, rfl, (show _ ∧ _ from ⟨HL.out, by rw [HG.out]; exact HU.out⟩)⟩
          case measure => simp [intOf]; omega
      · obtain rfl : j = S := by omega
        have HE := Lib.hid (show runsOf l j = runsTo l j from HS0.out)
        go_wp2_with fail
        go_ret
        have h := HP.out.2
        rw [← HP.out.1] at h ⊢
        rw [HE.out]
        exact ⟨A1, cap1, rfl, h.1, h.2⟩


theorem grow_yes2 (l : List UInt8) (j : Nat) {K : Nat} {b c : Bool} (hK : (runsTo l j).length = K + 1) (hb : b = decide ((K + 1) % 2 = 0)) (hc : bitB l j = c) (h : c ≠ b) : grow (runsTo l j) (bitB l j) = runsTo l j ++ [0] := by
  unfold grow
  rw [if_pos]
  rw [hK, hc]
  cases c <;> cases b
  · exact absurd rfl h
  · have := of_decide_eq_true hb.symm; exact (decide_eq_false (by omega)).symm
  · have := of_decide_eq_false hb.symm; exact (decide_eq_true (by omega)).symm
  · exact absurd rfl h
theorem grow_no2 (l : List UInt8) (j : Nat) {K : Nat} {b c : Bool} (hK : (runsTo l j).length = K + 1) (hb : b = decide ((K + 1) % 2 = 0)) (hc : bitB l j = c) (h : c = b) : grow (runsTo l j) (bitB l j) = runsTo l j := by
  unfold grow
  rw [if_neg]
  rw [hK, hc, h, hb]
  intro e
  by_cases h2 : (K + 1) % 2 = 0
  · rw [decide_eq_true h2] at e; have := of_decide_eq_true e.symm; omega
  · rw [decide_eq_false h2] at e; have := of_decide_eq_false e.symm; omega
theorem flip_par {K : Nat} {b : Bool} (hb : b = decide ((K + 1) % 2 = 0)) : (!b) = decide ((K + 1 + 1) % 2 = 0) := by
  rw [hb]
  by_cases h2 : (K + 1) % 2 = 0
  · rw [decide_eq_true h2, decide_eq_false (by omega)]; rfl
  · rw [decide_eq_false h2, decide_eq_true (by omega)]; rfl

set_option maxRecDepth 100000 in
set_option maxHeartbeats 2000000 in
theorem rruns_any (w : World) (A : Option Addr) (n cap B : Nat) (m : Int) (l : List UInt8) (hr : Rd w B A l) (hn : l.length = n) (hB : B ≤ w.heap.size) (hl : n ≤ 549755813888) :
    Calls Try.prog 26 #[.slice A n cap, .int .i64 m] w (NewI w (runsOf l (spanN n m))) := by
  have HR := Lib.hid hr
  have HN := Lib.hid hn
  have HB := Lib.hid hB
  have hsp := spanN_le n m
  have HS := Lib.hid (fun w => rspan_any w A n cap m (by omega))
  generalize spanN n m = S at hsp HS ⊢
  obtain ⟨i0, hi, hz0, hz1, hz2⟩ := info_parts infoI
  have HI := Lib.hid (⟨hi, hz0, hz1, hz2⟩ : _ ∧ _ ∧ _ ∧ _)
  have H0 := Lib.hid (show RunR w (w.alloc (.cells #[] 3)) (.slice (some ⟨w.heap.size, 0, none⟩) 0 0) [] from ⟨ownI_made w [] (by unfold maxLen; simp), (Fr.refl _ w).alloc _⟩)
  clear hr hn hB hi hz0 hz1 hz2
  go_enter Try.func26, Try.ntmps26
  go_wp2_with fail
  go_loopw [5, 6, 7] (fun v q i wr => ∃ (j K : Nat) (b : Bool), j ≤ S ∧ K ≤ j + 1 ∧ i = .int .i64 j ∧ q = .bool b ∧ ∃ A1 cap1, v = .slice A1 K cap1 ∧ Hid ((j = 0 → K = 0 ∧ b = false) ∧ (j ≠ 0 → b = decide (K % 2 = 0)) ∧ (runsOf l j).length = K ∧ RunR w wr (.slice A1 K cap1) (runsOf l j))) (fun _ _ i _ => S - (intOf i).toNat)
  case atStart => exact ⟨0, 0, false, Nat.zero_le _, Nat.zero_le _, rfl, rfl, _, 0, rfl, (show _ ∧ _ from ⟨fun _ => ⟨rfl, rfl⟩, fun h => absurd rfl h, rfl, H0.out⟩)⟩
  case round =>
    obtain ⟨j, K, b, hj, hKj, rfl, rfl, A1, cap1, rfl, HP⟩ := hrel
    clear H0
    by_cases hlt : j < S
    · by_cases hj0 : j = 0
      · subst hj0
        obtain ⟨rfl, rfl⟩ := HP.out.1 rfl
        have hR0 : RunR w wr (.slice A1 0 cap1) [] := HP.out.2.2.2
        have HO := Lib.hid hR0.1
        have HF0 := Lib.hid hR0.2
        clear hR0 HP
        go_wp2_with (first
          | (go_at_call 36; refine (HS.out _).mono ?_; rintro e w' ⟨rfl, rfl⟩)
          | (at_builtin; refine wpList_append_own _ rfl (.tmp 18) (.tmp 19) 38 rfl w.heap.size 3 i0 (.int .i64 0) 1 8 Try.underlying38 HI.out.1 HI.out.2.1 HI.out.2.2.1 HI.out.2.2.2 rfl (by omega) _ 0 [] rfl (HO.out.alloc _) ⟨wr.heap.size, 0, none⟩ 1 1 (is [0]) rfl ?d1 ?d2 (is_one _) ?d3 ?d4 ?d5 ?d6))
        case d1 => rfl
        case d2 =>
          intro q u hu
          rw [add_plain]
          have hq : q < 1 := (List.getElem?_eq_some_iff.1 hu).1
          obtain rfl : q = 0 := by omega
          rw [cellAt (heap_alloc_new _ _)]
          exact hu
        case d3 => unfold maxLen; omega
        case d4 => omega
        case d5 => have := HF0.out.size; simp; omega
        case d6 =>
          intro v' w2 hown hgrow hnil
          have hfr := (HF0.out.alloc _).grown hgrow (fun k hk => by
            rcases HO.out.2 with ⟨e, _⟩ | ⟨g, cap', cur, e, hg, _⟩
            · rw [e] at hk; cases hk
            · rw [e] at hk; cases hk; exact Or.inr hg)
          obtain ⟨A2, cap2, rfl, ho⟩ := OwnI.shape (l := runsTo l 0) rfl rfl hown
          have HRR := Lib.hid (show RunR w w2 (.slice A2 (0 + 1) cap2) (runsTo l 0) from ⟨ho, hfr⟩)
          have HLen := Lib.hid (show (runsTo l 0).length = 0 + 1 from rfl)
          have HPar := Lib.hid (show false = decide ((0 + 1) % 2 = 0) from rfl)
          rw [show (runsTo l 0).length = 0 + 1 from rfl]
          clear hown hgrow hnil hfr ho
          have HBt := Lib.hid (rbit_any w2 A n cap B 0 l (HR.out.still HRR.out.2 HB.out) HN.out (by omega) (by omega))
          cases hbt : bitB l 0 with
          | true =>
            have HG := Lib.hid (show runsTo l (0 + 1) = bump (runsTo l 0 ++ [0]) from congrArg bump (grow_yes2 l 0 HLen.out HPar.out hbt (by decide)))
            rw [hbt] at HBt
            have hown0 : w2.ownsRow w.heap.size 3 1 (.slice A2 (0 + 1) cap2) (0 + 1) (is (runsTo l 0)) := by have h := HRR.out.1; unfold OwnI at h; rw [HLen.out] at h; exact h
            have HO2 := Lib.hid hown0
            clear hown0 hbt
            go_wp2_with (first
              | (go_at_call 36; refine (HS.out _).mono ?_; rintro e w' ⟨rfl, rfl⟩)
              | (go_at_call 34; refine HBt.out.mono ?_; rintro e w' ⟨rfl, rfl⟩)
              | (at_builtin; refine wpList_append_own _ rfl (.tmp 26) (.tmp 27) 38 rfl w.heap.size 3 i0 (.int .i64 0) 1 8 Try.underlying38 HI.out.1 HI.out.2.1 HI.out.2.2.1 HI.out.2.2.2 rfl (by omega) _ (0 + 1) (is (runsTo l 0)) rfl (HO2.out.alloc _) ⟨w2.heap.size, 0, none⟩ 1 1 (is [0]) rfl ?e11 ?e12 (is_one _) ?e13 ?e14 ?e15 ?e16))
            case e11 => rfl
            case e12 =>
              intro q u hu
              rw [add_plain]
              have hq : q < 1 := (List.getElem?_eq_some_iff.1 hu).1
              obtain rfl : q = 0 := by omega
              rw [cellAt (heap_alloc_new _ _)]
              exact hu
            case e13 => unfold maxLen; omega
            case e14 => omega
            case e15 => have := HRR.out.2.size; simp; omega
            case e16 =>
              intro v' w3 hown hgrow hnil
              have hfr := (HRR.out.2.alloc _).grown hgrow (fun k hk => by
                rcases HO2.out.2 with ⟨e, _⟩ | ⟨g, cap', cur, e, hg, _⟩
                · rw [e] at hk; cases hk
                · rw [e] at hk; cases hk; exact Or.inr hg)
              obtain ⟨A3, cap3, rfl, ho⟩ := OwnI.shape (l := runsTo l 0 ++ [0]) (by rw [List.length_append, HLen.out]; rfl) (by rw [is_append]) hown
              have hlen : (runsTo l 0 ++ [0]).length = 0 + 1 + 1 := by rw [List.length_append, HLen.out]; rfl
              rw [hlen] at ho ⊢
              have hR : RunR w w3 (.slice A3 (0 + 1 + 1) cap3) (runsTo l 0 ++ [0]) := ⟨ho, hfr⟩
              obtain ⟨g, x, rfl, hc, hf, hx, hup⟩ := hR.upped hlen
              have hxx : 0 ≤ x ∧ x ≤ ((0 : Nat) : Int) := by
                rcases List.mem_append.1 hx with h | h
                · exact runs_in l 0 x h
                · simp at h; omega
              obtain ⟨hx1, hx2⟩ := hxx
              have HU := Lib.hid (show (runsOf l (0 + 1)).length = 0 + 1 + 1 ∧ RunR w _ _ (runsOf l (0 + 1)) from ⟨by rw [runsOf_pos l (Nat.succ_ne_zero _), HG.out, bump_length, hlen], by rw [runsOf_pos l (Nat.succ_ne_zero _), HG.out]; exact hup⟩)
              have HQ := Lib.hid (show true = decide ((0 + 1 + 1) % 2 = 0) from flip_par HPar.out)
              clear hown hgrow hnil hfr ho hlen hR hx hup
              go_wp2_with fail
              go_roundw
              case rel => exact ⟨0 + 1, 0 + 1 + 1, true, by omega, by omega, by go_num, rfl, _, cap3, rfl, (show _ ∧ _ from ⟨fun h => absurd h (Nat.succ_ne_zero _), fun _ => HQ.out, HU.out⟩)⟩
              case measure => simp [intOf]; omega
          | false =>
            have HG := Lib.hid (show runsTo l (0 + 1) = bump (runsTo l 0) from congrArg bump (grow_no2 l 0 HLen.out HPar.out hbt rfl))
            rw [hbt] at HBt
            obtain ⟨g, x, rfl, hc, hf, hx, hup⟩ := HRR.out.upped HLen.out
            obtain ⟨hx1, hx2⟩ := runs_in l 0 x hx
            have HU := Lib.hid (show (runsOf l (0 + 1)).length = 0 + 1 ∧ RunR w _ _ (runsOf l (0 + 1)) from ⟨by rw [runsOf_pos l (Nat.succ_ne_zero _), HG.out, bump_length, HLen.out], by rw [runsOf_pos l (Nat.succ_ne_zero _), HG.out]; exact hup⟩)
            clear hx hup hbt
            go_wp2_with (first
              | (go_at_call 36; refine (HS.out _).mono ?_; rintro e w' ⟨rfl, rfl⟩)
              | (go_at_call 34; refine HBt.out.mono ?_; rintro e w' ⟨rfl, rfl⟩))
            go_roundw
            case rel => exact ⟨0 + 1, 0 + 1, false, by omega, by omega, by go_num, rfl, _, cap2, rfl, (show _ ∧ _ from ⟨fun h => absurd h (Nat.succ_ne_zero _), fun _ => HPar.out, HU.out⟩)⟩
            case measure => simp [intOf]; omega
      · obtain ⟨K, rfl⟩ : ∃ k, K = k + 1 := ⟨K - 1, by have h := HP.out.2.2.1; have := runsTo_length l j; rw [runsOf_pos l hj0] at h; omega⟩
        have hj1 : ((j : Int) == 0) = false := by rw [beq_eq_false_iff_ne]; omega
        have HRR := Lib.hid (show RunR w wr (.slice A1 (K + 1) cap1) (runsTo l j) by have h := HP.out.2.2.2; rwa [runsOf_pos l hj0] at h)
        have HLen := Lib.hid (show (runsTo l j).length = K + 1 by have h := HP.out.2.2.1; rwa [runsOf_pos l hj0] at h)
        have hpar := HP.out.2.1 hj0
        clear HP
        have HBt := Lib.hid (rbit_any wr A n cap B j l (HR.out.still HRR.out.2 HB.out) HN.out (by omega) (by omega))
        cases b with
        | false =>
          have HPar := Lib.hid hpar
          clear hpar
          cases hbt : bitB l j with
          | true =>
            have HG := Lib.hid (show runsTo l (j + 1) = bump (runsTo l j ++ [0]) from congrArg bump (grow_yes2 l j HLen.out HPar.out hbt (by decide)))
            rw [hbt] at HBt
            have hown0 : wr.ownsRow w.heap.size 3 1 (.slice A1 (K + 1) cap1) (K + 1) (is (runsTo l j)) := by have h := HRR.out.1; unfold OwnI at h; rw [HLen.out] at h; exact h
            have HO2 := Lib.hid hown0
            clear hown0 hbt
            go_wp2_with (first
              | (go_at_call 36; refine (HS.out _).mono ?_; rintro e w' ⟨rfl, rfl⟩)
              | (go_at_call 34; refine HBt.out.mono ?_; rintro e w' ⟨rfl, rfl⟩)
              | (at_builtin; refine wpList_append_own _ rfl (.tmp 26) (.tmp 27) 38 rfl w.heap.size 3 i0 (.int .i64 0) 1 8 Try.underlying38 HI.out.1 HI.out.2.1 HI.out.2.2.1 HI.out.2.2.2 rfl (by omega) _ (K + 1) (is (runsTo l j)) rfl (HO2.out.alloc _) ⟨wr.heap.size, 0, none⟩ 1 1 (is [0]) rfl ?e21 ?e22 (is_one _) ?e23 ?e24 ?e25 ?e26))
            case e21 => rfl
            case e22 =>
              intro q u hu
              rw [add_plain]
              have hq : q < 1 := (List.getElem?_eq_some_iff.1 hu).1
              obtain rfl : q = 0 := by omega
              rw [cellAt (heap_alloc_new _ _)]
              exact hu
            case e23 => unfold maxLen; omega
            case e24 => omega
            case e25 => have := HRR.out.2.size; simp; omega
            case e26 =>
              intro v' w3 hown hgrow hnil
              have hfr := (HRR.out.2.alloc _).grown hgrow (fun k hk => by
                rcases HO2.out.2 with ⟨e, _⟩ | ⟨g, cap', cur, e, hg, _⟩
                · rw [e] at hk; cases hk
                · rw [e] at hk; cases hk; exact Or.inr hg)
              obtain ⟨A3, cap3, rfl, ho⟩ := OwnI.shape (l := runsTo l j ++ [0]) (by rw [List.length_append, HLen.out]; rfl) (by rw [is_append]) hown
              have hlen : (runsTo l j ++ [0]).length = K + 1 + 1 := by rw [List.length_append, HLen.out]; rfl
              rw [hlen] at ho ⊢
              have hR : RunR w w3 (.slice A3 (K + 1 + 1) cap3) (runsTo l j ++ [0]) := ⟨ho, hfr⟩
              obtain ⟨g, x, rfl, hc, hf, hx, hup⟩ := hR.upped hlen
              have hxx : 0 ≤ x ∧ x ≤ ((j : Nat) : Int) := by
                rcases List.mem_append.1 hx with h | h
                · exact runs_in l j x h
                · simp at h; omega
              obtain ⟨hx1, hx2⟩ := hxx
              have HU := Lib.hid (show (runsOf l (j + 1)).length = K + 1 + 1 ∧ RunR w _ _ (runsOf l (j + 1)) from ⟨by rw [runsOf_pos l (Nat.succ_ne_zero _), HG.out, bump_length, hlen], by rw [runsOf_pos l (Nat.succ_ne_zero _), HG.out]; exact hup⟩)
              have HQ := Lib.hid (show true = decide ((K + 1 + 1) % 2 = 0) from flip_par HPar.out)
              clear hown hgrow hnil hfr ho hlen hR hx hup
              go_wp2_with fail
              go_roundw
              case rel => exact ⟨j + 1, K + 1 + 1, true, by omega, by omega, by go_num, rfl, _, cap3, rfl, (show _ ∧ _ from ⟨fun h => absurd h (Nat.succ_ne_zero _), fun _ => HQ.out, HU.out⟩)⟩
              case measure => simp [intOf]; omega
          | false =>
            have HG := Lib.hid (show runsTo l (j + 1) = bump (runsTo l j) from congrArg bump (grow_no2 l j HLen.out HPar.out hbt rfl))
            rw [hbt] at HBt
            obtain ⟨g, x, rfl, hc, hf, hx, hup⟩ := HRR.out.upped HLen.out
            obtain ⟨hx1, hx2⟩ := runs_in l j x hx
            have HU := Lib.hid (show (runsOf l (j + 1)).length = K + 1 ∧ RunR w _ _ (runsOf l (j + 1)) from ⟨by rw [runsOf_pos l (Nat.succ_ne_zero _), HG.out, bump_length, HLen.out], by rw [runsOf_pos l (Nat.succ_ne_zero _), HG.out]; exact hup⟩)
            clear hx hup hbt
            go_wp2_with (first
              | (go_at_call 36; refine (HS.out _).mono ?_; rintro e w' ⟨rfl, rfl⟩)
              | (go_at_call 34; refine HBt.out.mono ?_; rintro e w' ⟨rfl, rfl⟩))
            go_roundw
            case rel => exact ⟨j + 1, K + 1, false, by omega, by omega, by go_num, rfl, _, cap1, rfl, (show _ ∧ _ from ⟨fun h => absurd h (Nat.succ_ne_zero _), fun _ => HPar.out, HU.out⟩)⟩
            case measure => simp [intOf]; omega
        | true =>
          have HPar := Lib.hid hpar
          clear hpar
          cases hbt : bitB l j with
          | false =>
            have HG := Lib.hid (show runsTo l (j + 1) = bump (runsTo l j ++ [0]) from congrArg bump (grow_yes2 l j HLen.out HPar.out hbt (by decide)))
            rw [hbt] at HBt
            have hown0 : wr.ownsRow w.heap.size 3 1 (.slice A1 (K + 1) cap1) (K + 1) (is (runsTo l j)) := by have h := HRR.out.1; unfold OwnI at h; rw [HLen.out] at h; exact h
            have HO2 := Lib.hid hown0
            clear hown0 hbt
            go_wp2_with (first
              | (go_at_call 36; refine (HS.out _).mono ?_; rintro e w' ⟨rfl, rfl⟩)
              | (go_at_call 34; refine HBt.out.mono ?_; rintro e w' ⟨rfl, rfl⟩)
              | (at_builtin; refine wpList_append_own _ rfl (.tmp 26) (.tmp 27) 38 rfl w.heap.size 3 i0 (.int .i64 0) 1 8 Try.underlying38 HI.out.1 HI.out.2.1 HI.out.2.2.1 HI.out.2.2.2 rfl (by omega) _ (K + 1) (is (runsTo l j)) rfl (HO2.out.alloc _) ⟨wr.heap.size, 0, none⟩ 1 1 (is [0]) rfl ?e31 ?e32 (is_one _) ?e33 ?e34 ?e35 ?e36))
            case e31 => rfl
            case e32 =>
              intro q u hu
              rw [add_plain]
              have hq : q < 1 := (List.getElem?_eq_some_iff.1 hu).1
              obtain rfl : q = 0 := by omega
              rw [cellAt (heap_alloc_new _ _)]
              exact hu
            case e33 => unfold maxLen; omega
            case e34 => omega
            case e35 => have := HRR.out.2.size; simp; omega
            case e36 =>
              intro v' w3 hown hgrow hnil
              have hfr := (HRR.out.2.alloc _).grown hgrow (fun k hk => by
                rcases HO2.out.2 with ⟨e, _⟩ | ⟨g, cap', cur, e, hg, _⟩
                · rw [e] at hk; cases hk
                · rw [e] at hk; cases hk; exact Or.inr hg)
              obtain ⟨A3, cap3, rfl, ho⟩ := OwnI.shape (l := runsTo l j ++ [0]) (by rw [List.length_append, HLen.out]; rfl) (by rw [is_append]) hown
              have hlen : (runsTo l j ++ [0]).length = K + 1 + 1 := by rw [List.length_append, HLen.out]; rfl
              rw [hlen] at ho ⊢
              have hR : RunR w w3 (.slice A3 (K + 1 + 1) cap3) (runsTo l j ++ [0]) := ⟨ho, hfr⟩
              obtain ⟨g, x, rfl, hc, hf, hx, hup⟩ := hR.upped hlen
              have hxx : 0 ≤ x ∧ x ≤ ((j : Nat) : Int) := by
                rcases List.mem_append.1 hx with h | h
                · exact runs_in l j x h
                · simp at h; omega
              obtain ⟨hx1, hx2⟩ := hxx
              have HU := Lib.hid (show (runsOf l (j + 1)).length = K + 1 + 1 ∧ RunR w _ _ (runsOf l (j + 1)) from ⟨by rw [runsOf_pos l (Nat.succ_ne_zero _), HG.out, bump_length, hlen], by rw [runsOf_pos l (Nat.succ_ne_zero _), HG.out]; exact hup⟩)
              have HQ := Lib.hid (show false = decide ((K + 1 + 1) % 2 = 0) from flip_par HPar.out)
              clear hown hgrow hnil hfr ho hlen hR hx hup
              go_wp2_with fail
              go_roundw
              case rel => exact ⟨j + 1, K + 1 + 1, false, by omega, by omega, by go_num, rfl, _, cap3, rfl, (show _ ∧ _ from ⟨fun h => absurd h (Nat.succ_ne_zero _), fun _ => HQ.out, HU.out⟩)⟩
              case measure => simp [intOf]; omega
          | true =>
            have HG := Lib.hid (show runsTo l (j + 1) = bump (runsTo l j) from congrArg bump (grow_no2 l j HLen.out HPar.out hbt rfl))
            rw [hbt] at HBt
            obtain ⟨g, x, rfl, hc, hf, hx, hup⟩ := HRR.out.upped HLen.out
            obtain ⟨hx1, hx2⟩ := runs_in l j x hx
            have HU := Lib.hid (show (runsOf l (j + 1)).length = K + 1 ∧ RunR w _ _ (runsOf l (j + 1)) from ⟨by rw [runsOf_pos l (Nat.succ_ne_zero _), HG.out, bump_length, HLen.out], by rw [runsOf_pos l (Nat.succ_ne_zero _), HG.out]; exact hup⟩)
            clear hx hup hbt
            go_wp2_with (first
              | (go_at_call 36; refine (HS.out _).mono ?_; rintro e w' ⟨rfl, rfl⟩)
              | (go_at_call 34; refine HBt.out.mono ?_; rintro e w' ⟨rfl, rfl⟩))
            go_roundw
            case rel => exact ⟨j + 1, K + 1, true, by omega, by omega, by go_num, rfl, _, cap1, rfl, (show _ ∧ _ from ⟨fun h => absurd h (Nat.succ_ne_zero _), fun _ => HPar.out, HU.out⟩)⟩
            case measure => simp [intOf]; omega
    · obtain rfl : j = S := by omega
      go_wp2_with (go_at_call 36; refine (HS.out _).mono ?_; rintro e w' ⟨rfl, rfl⟩)
      go_ret
      obtain ⟨h1, h2⟩ := HP.out.2.2
      subst h1
      exact ⟨A1, cap1, rfl, h2.1, h2.2⟩
end Go.Proofs.Ytmfilcdljfpnfaa
