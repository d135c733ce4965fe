/-
  Set, the program's and the document's.
-/
import Derived.Test.YtmfilcdljfpnfaaBitsB
namespace Go.Proofs.Ytmfilcdljfpnfaa
open Go.RowKit Go.Maps

/-- The byte that a set bit leaves. -/
def setU (l : List UInt8) (i : Nat) (on : Bool) : UInt8 := UInt8.ofNat (setN (l.getD (i / 8) 0).toNat (i % 8) on)
theorem setU_nat (l : List UInt8) (i : Nat) (on : Bool) (h : i / 8 < l.length) : (setU l i on).toNat = setN (l[i / 8]).toNat (i % 8) on := by
  unfold setU
  rw [List.getD_eq_getElem?_getD, List.getElem?_eq_getElem h, Option.getD_some, UInt8.toNat_ofNat']
  have h1 := set_facts ⟨l[i / 8].toNat, l[i / 8].toNat_lt⟩ ⟨i % 8, Nat.mod_lt _ (by decide)⟩ on
  exact Nat.mod_eq_of_lt h1.1
theorem or_rule (l : List UInt8) (i : Nat) (h : i / 8 < l.length) : bits .or .u8 (l[i / 8].toNat : Int) ((2 ^ (i % 8) : Nat) : Int) = ((setU l i true).toNat : Int) := by
  rw [setU_nat l i true h]
  exact or_facts ⟨l[i / 8].toNat, l[i / 8].toNat_lt⟩ ⟨i % 8, Nat.mod_lt _ (by decide)⟩
theorem andNot_rule (l : List UInt8) (i : Nat) (h : i / 8 < l.length) : bits .andNot .u8 (l[i / 8].toNat : Int) ((2 ^ (i % 8) : Nat) : Int) = ((setU l i false).toNat : Int) := by
  rw [setU_nat l i false h]
  exact andNot_facts ⟨l[i / 8].toNat, l[i / 8].toNat_lt⟩ ⟨i % 8, Nat.mod_lt _ (by decide)⟩
theorem wrap_pow {s : Nat} (h : s < 8) : IntKind.u8.wrap (2 ^ s) = ((2 ^ s : Nat) : Int) := by
  have h2 : s = 0 ∨ s = 1 ∨ s = 2 ∨ s = 3 ∨ s = 4 ∨ s = 5 ∨ s = 6 ∨ s = 7 := by omega
  rcases h2 with rfl | rfl | rfl | rfl | rfl | rfl | rfl | rfl <;> decide
theorem setL_setU (l : List UInt8) (i : Nat) (on : Bool) : l.set (i / 8) (setU l i on) = setL l i on := rfl

set_option maxHeartbeats 400000 in
theorem set_no (w : World) (A : Option Addr) (n cap : Nat) (i : Int) (on : Bool) (hz2 : i ≤ 9223372036854775807) (h : ¬ (0 ≤ i ∧ i / 8 < n)) :
    Calls Try.prog 18 #[.slice A n cap, .int .i64 i, .bool on] w fun e w' => e = .returned (.tuple #[.slice none 0 0, .int .i64 2]) ∧ w = w' := by
  have H := Lib.hid h
  clear h
  go_enter Try.func18, Try.ntmps18
  go_wp2_with (go_at_call 32; refine (within_no _ _ _ _ _ hz2 H.out).mono ?_; rintro e w' ⟨rfl, rfl⟩)
  go_ret2
  exact ⟨rfl, rfl⟩
set_option maxHeartbeats 400000 in
theorem rset_no (w : World) (A : Option Addr) (n cap : Nat) (i : Int) (on : Bool) (hz2 : i ≤ 9223372036854775807) (h : ¬ (0 ≤ i ∧ i / 8 < n)) :
    Calls Try.prog 19 #[.slice A n cap, .int .i64 i, .bool on] w fun e w' => e = .returned (.tuple #[.slice none 0 0, .int .i64 2]) ∧ w = w' := by
  by_cases h0 : 0 ≤ i
  · have h1 : (n : Int) ≤ i / 8 := by omega
    clear h
    go_enter Try.func19, Try.ntmps19
    go_wp2_with fail
    go_ret2
    exact ⟨rfl, rfl⟩
  · have h1 : i < 0 := by omega
    clear h h0
    go_enter Try.func19, Try.ntmps19
    go_wp2_with fail
    all_goals first | (exfalso; omega) | (go_ret2; exact ⟨rfl, rfl⟩)

theorem new_of_put {w wr : World} {A : Option Addr} {cap n : Nat} {l : List UInt8} (h : PutR w wr A cap l) (hn : l.length = n) : NewB2 w l (.returned (.tuple #[.slice A n cap, .int .i64 0])) wr := by
  subst hn
  exact ⟨A, cap, rfl, h.1, own_none h.1, h.2⟩

set_option maxRecDepth 100000 in
set_option maxHeartbeats 1000000 in
theorem set_ok (w : World) (A : Option Addr) (n cap B i : Nat) (on : Bool) (l : List UInt8) (hr : Rd w B A l) (hn : l.length = n) (hB : B ≤ w.heap.size) (hA : A = none → cap = 0) (hl : n ≤ 140737488351232) (hi : i / 8 < n) :
    Calls Try.prog 18 #[.slice A n cap, .int .i64 (i : Int), .bool on] w (NewB2 w (setL l i on)) := by
  have hi0 : (0 : Int) ≤ (i : Int) / 8 := by omega
  have hi1 : (i : Int) / 8 < n := by omega
  have hk : i / 8 < l.length := by omega
  have HW := Lib.hid (within_ok w A n cap i hl hi)
  have HC := Lib.hid (clone_any w.drew A n cap B l (fun hne => hr hne) hn hB hA hl)
  have HN := Lib.hid hn
  obtain ⟨s, hs⟩ : ∃ s, s = i % 8 := ⟨_, rfl⟩
  have ht : (i : Int).tmod 8 = (s : Int) := by rw [Int.tmod_eq_emod_of_nonneg (by omega)]; omega
  have hs0 : (0 : Int) ≤ s := by omega
  have hs8 : s < 8 := by omega
  have hw := wrap_pow hs8
  have hor := or_rule l i hk
  have han := andNot_rule l i hk
  rw [← hs] at hor han
  generalize ((2 ^ s : Nat) : Int) = V at hw hor han
  have HO := Lib.hid hor
  have HA := Lib.hid han
  clear hs hr hA hB hn hor han
  cases on with
  | true =>
    go_enter Try.func18, Try.ntmps18
    go_wp2_with (go_at_call 32; refine HW.out.mono ?_; rintro e w' ⟨rfl, rfl⟩)
    go_region_with ((go_at_call 31; refine HC.out.mono ?_; rintro e w1 ⟨A1, cap1, rfl, ho, hF⟩))
    all_goals
      obtain ⟨g, rfl, hc, hf, hset⟩ := (show PutR w w1 A1 cap1 l from ⟨ho, (Fr.refl _ w).drew.trans hF (fun _ _ e => e)⟩).step hk
      have HP := Lib.hid (new_of_put (hset (setU l i true)) (by rw [List.length_set]))
      have ho2 := HO.out
      generalize ((setU l i true).toNat : Int) = X at ho2 HP
      generalize l[i / 8].toNat = y at hc ho2
      rw [setL_setU] at HP
      clear hset ho hF
      go_wp2_with fail
      go_ret2
      exact HP.out
  | false =>
    go_enter Try.func18, Try.ntmps18
    go_wp2_with (go_at_call 32; refine HW.out.mono ?_; rintro e w' ⟨rfl, rfl⟩)
    go_region_with ((go_at_call 31; refine HC.out.mono ?_; rintro e w1 ⟨A1, cap1, rfl, ho, hF⟩))
    all_goals
      obtain ⟨g, rfl, hc, hf, hset⟩ := (show PutR w w1 A1 cap1 l from ⟨ho, (Fr.refl _ w).drew.trans hF (fun _ _ e => e)⟩).step hk
      have HP := Lib.hid (new_of_put (hset (setU l i false)) (by rw [List.length_set]))
      have ho2 := HA.out
      generalize ((setU l i false).toNat : Int) = X at ho2 HP
      generalize l[i / 8].toNat = y at hc ho2
      rw [setL_setU] at HP
      clear hset ho hF
      go_wp2_with fail
      go_ret2
      exact HP.out

theorem add_facts : ∀ (x : Fin 256) (s : Fin 8), (bitN x s == 1) = false → ((x : Nat) : Int) + ((2 ^ (s : Nat) : Nat) : Int) = ((setN x s true : Nat) : Int) ∧ setN x s true < 256 := by decide +kernel
theorem sub_facts : ∀ (x : Fin 256) (s : Fin 8), (bitN x s == 1) = true → ((x : Nat) : Int) - ((2 ^ (s : Nat) : Nat) : Int) = ((setN x s false : Nat) : Int) ∧ setN x s false < 256 := by decide +kernel
theorem same_facts : ∀ (x : Fin 256) (s : Fin 8) (on : Bool), (bitN x s == 1) = on → setN x s on = x := by decide +kernel
theorem bitB_get (l : List UInt8) (i : Nat) (h : i / 8 < l.length) : bitB l i = (bitN l[i / 8].toNat (i % 8) == 1) := by
  unfold bitB
  rw [List.getD_eq_getElem?_getD, List.getElem?_eq_getElem h, Option.getD_some]
theorem setL_same (l : List UInt8) (i : Nat) (h : i / 8 < l.length) (on : Bool) (hb : bitB l i = on) : setL l i on = l := by
  rw [bitB_get l i h] at hb
  have h1 := same_facts ⟨l[i / 8].toNat, l[i / 8].toNat_lt⟩ ⟨i % 8, Nat.mod_lt _ (by decide)⟩ on hb
  have h2 := setU_nat l i on h
  simp only at h1
  rw [h1] at h2
  rw [← setL_setU, UInt8.toNat_inj.1 h2, List.set_getElem_self]
theorem add_rule (l : List UInt8) (i : Nat) (h : i / 8 < l.length) (hb : bitB l i = false) : (l[i / 8].toNat : Int) + ((2 ^ (i % 8) : Nat) : Int) = ((setU l i true).toNat : Int) := by
  rw [bitB_get l i h] at hb
  rw [setU_nat l i true h]
  exact (add_facts ⟨l[i / 8].toNat, l[i / 8].toNat_lt⟩ ⟨i % 8, Nat.mod_lt _ (by decide)⟩ hb).1
theorem sub_rule (l : List UInt8) (i : Nat) (h : i / 8 < l.length) (hb : bitB l i = true) : (l[i / 8].toNat : Int) - ((2 ^ (i % 8) : Nat) : Int) = ((setU l i false).toNat : Int) := by
  rw [bitB_get l i h] at hb
  rw [setU_nat l i false h]
  exact (sub_facts ⟨l[i / 8].toNat, l[i / 8].toNat_lt⟩ ⟨i % 8, Nat.mod_lt _ (by decide)⟩ hb).1
theorem pow_in {s : Nat} (h : s < 8) : 1 ≤ 2 ^ s ∧ 2 ^ s ≤ 128 := by
  have h2 : s = 0 ∨ s = 1 ∨ s = 2 ∨ s = 3 ∨ s = 4 ∨ s = 5 ∨ s = 6 ∨ s = 7 := by omega
  rcases h2 with rfl | rfl | rfl | rfl | rfl | rfl | rfl | rfl <;> decide

set_option maxRecDepth 100000 in
set_option maxHeartbeats 2000000 in
theorem rset_ok (w : World) (A : Option Addr) (n cap B i : Nat) (on : Bool) (l : List UInt8) (hr : Rd w B A l) (hn : l.length = n) (hB : B ≤ w.heap.size) (hl : n ≤ 140737488351232) (hi : i / 8 < n) :
    Calls Try.prog 19 #[.slice A n cap, .int .i64 (i : Int), .bool on] w (NewB2 w (setL l i on)) := by
  have hi0 : (0 : Int) ≤ (i : Int) / 8 := by omega
  have hi1 : (i : Int) / 8 < n := by omega
  have hk : i / 8 < l.length := by omega
  obtain ⟨i0, hi, hz0, hz1, hz2⟩ := info_parts infoB
  have hO : (w.alloc (.cells #[] 5)).ownsRow w.heap.size 5 1 (.slice (some ⟨w.heap.size, 0, none⟩) 0 0) 0 [] := World.ownsRow_made w #[] 0 (Nat.le_refl _) (Nat.zero_le _) (by simp)
  have hF : Fr (fun _ => False) w (w.alloc (.cells #[] 5)) := (Fr.refl _ w).alloc _
  have HO := Lib.hid hO
  have HF := Lib.hid hF
  have HI := Lib.hid (⟨hi, hz0, hz1, hz2⟩ : _ ∧ _ ∧ _ ∧ _)
  have HN := Lib.hid hn
  have HK := Lib.hid hk
  clear hO hF hi hz0 hz1 hz2
  cases A with
  | none =>
    exfalso
    have hne : l ≠ [] := by intro e; subst e; simp at hk
    obtain ⟨_, _, e, _⟩ := hr hne
    cases e
  | some ad =>
  have hr1 := hr.still HF.out hB
  have HR := Lib.hid hr1.src
  have HR0 := Lib.hid hr
  have HB := Lib.hid hB
  clear hr hn hr1 hk hB
  go_enter Try.func19, Try.ntmps19
  go_wp2_with (at_builtin; refine wpList_append_own _ rfl (.tmp 20) (.tmp 21) 22 rfl w.heap.size 5 i0 (.int .u8 0) 1 1 Try.underlying22 HI.out.1 HI.out.2.1 HI.out.2.2.1 HI.out.2.2.2 rfl (by omega) _ 0 [] rfl HO.out ad n cap (bs l) rfl ?c1 HR.out (bs_one l) ?c2 ?c3 ?c4 ?c5)
  case c1 => rw [bs_length, HN.out]; omega
  case c2 => unfold maxLen; omega
  case c3 => omega
  case c4 => simp
  case c5 =>
  intro v' w1 hown hgrow hnil
  have hfr := HF.out.grown hgrow (fun k hk => Or.inr (by simp [Value.ownBlock] at hk; omega))
  obtain ⟨A1, cap1, e1, ho, hF⟩ := NewB.of_own (l := l) HN.out.symm rfl hnil hown hfr
  cases e1
  rw [HN.out]
  have hk := HK.out
  have HP0 := Lib.hid (show PutR w w1 A1 cap1 l from ⟨ho, hF⟩)
  have HRB := Lib.hid (rbit_any w1 (some ad) n cap B i l (HR0.out.still hF HB.out) HN.out (by omega) hl)
  clear ho hF hown hgrow hnil hfr hk
  go_wp2_with fail
  go_loop [9, 10] (fun v j => ∃ k : Nat, k ≤ i % 8 ∧ j = .int .i64 k ∧ v = .int .i64 ((2 ^ k : Nat) : Int)) (fun _ j => i % 8 - (intOf j).toNat)
  case atStart => exact ⟨0, Nat.zero_le _, rfl, rfl⟩
  case round =>
    obtain ⟨k, hk, rfl, rfl⟩ := hrel
    by_cases hlt : k < i % 8
    · have h1 : (k : Int) < (i : Int) % 8 := by omega
      have HH := Lib.hid (show ((2 ^ (k + 1) : Nat) : Int) = ((2 ^ k : Nat) : Int) * 2 by rw [Nat.pow_succ]; omega)
      have hq := pow_in (s := k) (by omega)
      generalize 2 ^ k = q at HH hq ⊢
      obtain ⟨hq1, hq2⟩ := hq
      go_wp2_with fail
      go_round
      case rel => exact ⟨k + 1, by omega, by go_num, by rw [HH.out]⟩
      case measure => simp [intOf]; omega
    · have h1 : (i : Int) % 8 ≤ (k : Int) := by omega
      have HKK := Lib.hid (show k = i % 8 by omega)
      have hq := pow_in (s := k) (by omega)
      obtain ⟨hq1, hq2⟩ := hq
      have hadd := add_rule l i HK.out
      have hsub := sub_rule l i HK.out
      rw [← HKK.out] at hadd hsub
      generalize 2 ^ k = q at hq1 hq2 hadd hsub ⊢
      clear hlt
      cases hb : bitB l i with
      | false =>
        have HADD := Lib.hid (hadd hb)
        rw [hb] at HRB
        have HB1 := Lib.hid hb
        clear hadd hsub hb
        cases on with
        | false =>
          have HE := Lib.hid (setL_same l i HK.out false HB1.out)
          go_wp2_with (go_at_call 34; refine HRB.out.mono ?_; rintro e w' ⟨rfl, rfl⟩)
          go_ret2
          rw [HE.out]
          exact new_of_put HP0.out HN.out
        | true =>
          obtain ⟨g, rfl, hc, hf, hset⟩ := HP0.out.step HK.out
          have HP := Lib.hid (new_of_put (hset (setU l i true)) (by rw [List.length_set, HN.out]))
          have ho2 := HADD.out
          have hX0 : ((setU l i true).toNat : Int) < 256 := by have := (setU l i true).toNat_lt; omega
          have hX1 : 0 ≤ ((setU l i true).toNat : Int) := by omega
          generalize ((setU l i true).toNat : Int) = X at ho2 HP hX0 hX1
          have hy := l[i / 8].toNat_lt
          generalize l[i / 8].toNat = y at hc ho2 hy
          rw [setL_setU] at HP
          have hw : IntKind.u8.wrap X = X := by rw [wrap8]; omega
          clear hset HADD
          go_wp2_with (go_at_call 34; refine HRB.out.mono ?_; rintro e w' ⟨rfl, rfl⟩)
          go_ret2
          exact HP.out
      | true =>
        have HSUB := Lib.hid (hsub hb)
        rw [hb] at HRB
        have HB1 := Lib.hid hb
        clear hadd hsub hb
        cases on with
        | true =>
          have HE := Lib.hid (setL_same l i HK.out true HB1.out)
          go_wp2_with (go_at_call 34; refine HRB.out.mono ?_; rintro e w' ⟨rfl, rfl⟩)
          go_ret2
          rw [HE.out]
          exact new_of_put HP0.out HN.out
        | false =>
          obtain ⟨g, rfl, hc, hf, hset⟩ := HP0.out.step HK.out
          have HP := Lib.hid (new_of_put (hset (setU l i false)) (by rw [List.length_set, HN.out]))
          have ho2 := HSUB.out
          have hX0 : ((setU l i false).toNat : Int) < 256 := by have := (setU l i false).toNat_lt; omega
          have hX1 : 0 ≤ ((setU l i false).toNat : Int) := by omega
          generalize ((setU l i false).toNat : Int) = X at ho2 HP hX0 hX1
          have hy := l[i / 8].toNat_lt
          generalize l[i / 8].toNat = y at hc ho2 hy
          rw [setL_setU] at HP
          have hw : IntKind.u8.wrap X = X := by rw [wrap8]; omega
          clear hset HSUB
          go_wp2_with (go_at_call 34; refine HRB.out.mono ?_; rintro e w' ⟨rfl, rfl⟩)
          go_ret2
          exact HP.out
end Go.Proofs.Ytmfilcdljfpnfaa
