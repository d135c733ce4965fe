/-
  The document's Room and Check; the law's refHigh.
-/
import Derived.Test.YtnibbopdjeagoaaCdN
namespace Go.Proofs.Ytnibbopdjeagoaa.cd
set_option maxRecDepth 100000
open Go.RowKit Go.Maps Go.Proofs.Ytnibbopdjeagoaa.fl
set_option maxRecDepth 100000

theorem usedI_in (x : Int) : 0 ≤ usedI x ∧ usedI x ≤ 16384 := by
  unfold usedI
  by_cases h : 1 ≤ x ∧ x ≤ 15
  · rw [if_pos h]
    have h1 : (2 : Nat) ^ (15 - x.toNat) ≤ 2 ^ 14 := Nat.pow_le_pow_right (by omega) (by omega)
    have h2 : ((2 ^ (15 - x.toNat) : Nat) : Int) = 2 ^ (15 - x.toNat) := Int.natCast_pow 2 _
    have h3 : (0 : Int) ≤ 2 ^ (15 - x.toNat) := Int.pow_nonneg (by omega)
    omega
  · rw [if_neg h]
    omega
theorem usedS_take {l : List Int} {k : Nat} {x : Int} (h : l[k]? = some x) : usedS (l.take (k + 1)) = usedS (l.take k) + usedI x := by
  rw [List.take_add_one, h, usedS_append]
  simp [usedS]

set_option maxHeartbeats 4000000 in
theorem rroom (w : World) (A : Option Addr) (cap B : Nat) (l : List Int) (hr : RdI w B A l) (hl : l.length ≤ 140737488351232) :
    Calls Try.prog 13 #[.slice A l.length cap] w fun e w' => e = .returned (.int .i64 (roomI l)) ∧ w = w' := by
  obtain ⟨n, hn⟩ : ∃ n, n = l.length := ⟨_, rfl⟩
  have HR := Lib.hid (⟨hr, hn⟩ : _ ∧ _)
  rw [← hn] at hl ⊢
  clear hr hn
  go_enter Try.func13, Try.ntmps13
  go_wp2_with fail
  go_loop [3, 4] (fun v3 v4 => ∃ (k : Nat) (U : Int), k ≤ n ∧ 0 ≤ U ∧ U ≤ 16384 * k ∧ v4 = .int .i64 k ∧ v3 = .int .i64 (32768 - U) ∧ Hid (U = usedS (l.take k))) (fun _ v => n - (intOf v).toNat)
  case atStart => exact ⟨0, 0, Nat.zero_le _, by omega, by omega, rfl, rfl, (show _ = _ from rfl)⟩
  case round =>
    obtain ⟨k, U, hk, hU0, hU1, rfl, rfl, HU⟩ := hrel
    by_cases hlt : k < n
    · have hkl : k < l.length := by have := HR.out.2; omega
      obtain ⟨blk, off, rfl, -, hc, -, -⟩ := HR.out.1.at_ hkl
      have hs := usedS_take (List.getElem?_eq_getElem hkl)
      rw [← HU.out] at hs
      obtain ⟨x, hx⟩ : ∃ x, x = l[k] := ⟨_, rfl⟩
      rw [← hx] at hc hs
      clear hx hkl
      have hcase : x < 1 ∨ (1 ≤ x ∧ x ≤ 15) ∨ (1 ≤ x ∧ 15 < x) := by omega
      rcases hcase with h1 | ⟨h1, h2⟩ | ⟨h1, h2⟩
      · have HS := Lib.hid (show U = usedS (l.take (k + 1)) by rw [hs]; unfold usedI; rw [if_neg (by omega)]; omega)
        clear hs
        go_wp2_with fail
        go_round
        case rel => exact ⟨k + 1, U, by omega, by omega, by omega, by go_num, rfl, HS⟩
        case measure => simp [intOf]; omega
      · obtain ⟨X, rfl⟩ : ∃ X : Nat, x = X := ⟨x.toNat, by omega⟩
        have HS := Lib.hid (show usedS (l.take (k + 1)) = U + 2 ^ (15 - X) by rw [hs]; unfold usedI; rw [if_pos ⟨h1, h2⟩]; rfl)
        clear hs
        have hX1 : 1 ≤ X := by omega
        have hX2 : X ≤ 15 := by omega
        go_wp2_with fail
        go_loop [5, 6] (fun v5 v6 => ∃ (j z : Nat), X ≤ j ∧ j ≤ 15 ∧ z ≤ 16384 ∧ v6 = .int .i64 j ∧ v5 = .int .i64 z ∧ Hid (z = 2 ^ (j - X))) (fun _ v => 15 - (intOf v).toNat)
        case atStart => exact ⟨X, 1, by omega, by omega, by omega, rfl, rfl, (show _ = _ by rw [Nat.sub_self])⟩
        case round =>
          obtain ⟨j, z, hj1, hj2, hz, rfl, rfl, HZ⟩ := hrel
          by_cases hlt2 : j < 15
          · have hz2 : 2 * z = 2 ^ (j + 1 - X) := by rw [HZ.out, show j + 1 - X = (j - X) + 1 by omega, Nat.pow_succ]; omega
            have hz3 : (2 : Nat) ^ (j + 1 - X) ≤ 2 ^ 14 := Nat.pow_le_pow_right (by omega) (by omega)
            have hz4 : 2 * z ≤ 16384 := by omega
            have HZ2 := Lib.hid hz2
            clear hz2 hz3
            go_wp2_with fail
            go_round
            case rel => exact ⟨j + 1, 2 * z, by omega, by omega, hz4, by go_num, by go_num, HZ2⟩
            case measure => simp [intOf]; omega
          · obtain rfl : j = 15 := by omega
            have HS2 := Lib.hid (show U + z = usedS (l.take (k + 1)) by
              rw [HS.out, HZ.out, Int.natCast_pow]
              rfl)
            go_wp2_with fail
            go_round
            case rel => exact ⟨k + 1, U + z, by omega, by omega, by omega, by go_num, by go_num, HS2⟩
            case measure => simp [intOf]; omega
      · have HS := Lib.hid (show U = usedS (l.take (k + 1)) by rw [hs]; unfold usedI; rw [if_neg (by omega)]; omega)
        clear hs
        go_wp2_with fail
        go_round
        case rel => exact ⟨k + 1, U, by omega, by omega, by omega, by go_num, rfl, HS⟩
        case measure => simp [intOf]; omega
    · have HE := Lib.hid (show 32768 - U = roomI l by rw [HU.out, List.take_of_length_le (by have := HR.out.2; omega)]; rfl)
      go_wp2_with fail
      go_ret
      exact ⟨by rw [HE.out]; rfl, rfl⟩

theorem inB_take {l : List Int} {k : Nat} {x : Int} (h : l[k]? = some x) : inB (l.take (k + 1)) = (inB (l.take k) && (decide (0 ≤ x) && decide (x ≤ 15))) := by
  rw [List.take_add_one, h, inB_append]
  simp [inB]
theorem codes_take {l : List Int} {k : Nat} {x : Int} (h : l[k]? = some x) : codesN (l.take (k + 1)) = codesN (l.take k) + if 0 < x then 1 else 0 := by
  unfold codesN
  rw [List.take_add_one, h, List.countP_append]
  congr 1
  simp [List.countP_cons]
theorem codesN_le (l : List Int) : codesN l ≤ l.length := List.countP_le_length
theorem cnt_le (l : List Int) (n : Nat) : cnt l n ≤ l.length := List.count_le_length
theorem okB_no {l : List Int} (h : inB l = false) : okB l = false := by
  unfold okB
  rw [h]
  simp
theorem in_false {l : List Int} {k : Nat} {x : Int} (h : l[k]? = some x) (hx : x < 0 ∨ 15 < x) : inB l = false := by
  cases hb : inB l with
  | false => rfl
  | true =>
    have := (inB_iff l).1 hb x (List.mem_of_getElem? h)
    omega
theorem chk_long {l : List Int} (h : 288 < l.length) : chkI l = 100 := by
  unfold chkI okB
  rw [if_neg]
  simp
  intro h2
  omega
theorem chk_no {l : List Int} (h : okB l = false) : chkI l = 100 := by
  unfold chkI
  rw [h]
  rfl
theorem chk_yes {l : List Int} (h : okB l = true) : chkI l = 0 := if_pos h

set_option maxHeartbeats 4000000 in
theorem rcheck (w : World) (A : Option Addr) (cap B : Nat) (l : List Int) (hr : RdI w B A l) (hl : l.length ≤ 140737488351232) :
    Calls Try.prog 11 #[.slice A l.length cap] w fun e w' => e = .returned (.int .i64 (chkI l)) ∧ w = w' := by
  have HRM := Lib.hid (rroom w A cap B l hr hl)
  obtain ⟨n, hn⟩ : ∃ n, n = l.length := ⟨_, rfl⟩
  have HR := Lib.hid (⟨hr, hn⟩ : _ ∧ _)
  rw [← hn] at hl HRM ⊢
  clear hr hn
  by_cases hlong : 288 < n
  · have HE := Lib.hid (chk_long (by rw [← HR.out.2]; exact hlong))
    go_enter Try.func11, Try.ntmps11
    go_wp2_with fail
    go_ret
    exact ⟨by rw [HE.out]; rfl, rfl⟩
  have hn288 : n ≤ 288 := by omega
  go_enter Try.func11, Try.ntmps11
  go_wp2_with fail
  go_loop [3, 4, 5] (fun v3 v4 v5 => ∃ (k c o : Nat), k ≤ n ∧ c ≤ k ∧ o ≤ k ∧ v5 = .int .i64 k ∧ v3 = .int .i64 c ∧ v4 = .int .i64 o ∧ Hid (c = codesN (l.take k) ∧ o = cnt (l.take k) 1 ∧ inB (l.take k) = true)) (fun _ _ v => n - (intOf v).toNat)
  case atStart => exact ⟨0, 0, 0, Nat.zero_le _, by omega, by omega, rfl, rfl, rfl, (show _ ∧ _ from ⟨rfl, rfl, rfl⟩)⟩
  case round =>
    obtain ⟨k, c, o, hk, hck, hok, rfl, rfl, rfl, HU⟩ := hrel
    by_cases hlt : k < n
    · have hkl : k < l.length := by have := HR.out.2; omega
      obtain ⟨blk, off, rfl, -, hc, -, -⟩ := HR.out.1.at_ hkl
      have hget := List.getElem?_eq_getElem hkl
      obtain ⟨x, hx⟩ : ∃ x, x = l[k] := ⟨_, rfl⟩
      rw [← hx] at hc hget
      have h1 := codes_take hget
      have h2 := cnt_take_succ hget 1
      have h3 := inB_take hget
      rw [← HU.out.1] at h1
      rw [← HU.out.2.1] at h2
      rw [HU.out.2.2] at h3
      clear hx hkl
      have hcase : x < 0 ∨ (0 ≤ x ∧ 15 < x) ∨ x = 0 ∨ x = 1 ∨ (1 < x ∧ x ≤ 15) := by omega
      rcases hcase with g1 | ⟨g0, g1⟩ | rfl | rfl | ⟨g1, g2⟩
      · have HE := Lib.hid (chk_no (okB_no (in_false hget (Or.inl g1))))
        clear hget h1 h2 h3
        go_wp2_with fail
        go_ret
        exact ⟨by rw [HE.out]; rfl, rfl⟩
      · have HE := Lib.hid (chk_no (okB_no (in_false hget (Or.inr g1))))
        clear hget h1 h2 h3
        go_wp2_with fail
        go_ret
        exact ⟨by rw [HE.out]; rfl, rfl⟩
      · have HS := Lib.hid (⟨by rw [h1]; rfl, by rw [h2]; rfl, by rw [h3]; rfl⟩ : c = codesN (l.take (k + 1)) ∧ o = cnt (l.take (k + 1)) 1 ∧ inB (l.take (k + 1)) = true)
        clear hget h1 h2 h3
        go_wp2_with fail
        go_round
        case rel => exact ⟨k + 1, c, o, by omega, by omega, by omega, by go_num, rfl, rfl, HS⟩
        case measure => simp [intOf]; omega
      · have HS := Lib.hid (⟨by rw [h1]; rfl, by rw [h2]; rfl, by rw [h3]; rfl⟩ : c + 1 = codesN (l.take (k + 1)) ∧ o + 1 = cnt (l.take (k + 1)) 1 ∧ inB (l.take (k + 1)) = true)
        clear hget h1 h2 h3
        go_wp2_with fail
        go_round
        case rel => exact ⟨k + 1, c + 1, o + 1, by omega, by omega, by omega, by go_num, by go_num, by go_num, HS⟩
        case measure => simp [intOf]; omega
      · have HS := Lib.hid (⟨by rw [h1, if_pos (by omega)], by rw [h2, if_neg (by omega)]; rfl, by rw [h3, decide_eq_true (show 0 ≤ x by omega), decide_eq_true g2]; rfl⟩ : c + 1 = codesN (l.take (k + 1)) ∧ o = cnt (l.take (k + 1)) 1 ∧ inB (l.take (k + 1)) = true)
        clear hget h1 h2 h3
        go_wp2_with fail
        go_round
        case rel => exact ⟨k + 1, c + 1, o, by omega, by omega, by omega, by go_num, by go_num, rfl, HS⟩
        case measure => simp [intOf]; omega
    · obtain rfl : k = n := by omega
      have hU := HU.out
      rw [List.take_of_length_le (by have := HR.out.2; omega)] at hU
      have hin := usedI_in
      obtain ⟨r, hr⟩ : ∃ r, r = roomI l := ⟨_, rfl⟩
      have hlen : decide (l.length ≤ 288) = true := decide_eq_true (by have := HR.out.2; omega)
      have hok : okB l = (decide (r = 0) || decide (0 < r) && decide (c ≤ 1) && decide (c = o)) := by
        unfold okB
        rw [hlen, hU.2.2, ← hr, ← hU.1, ← hU.2.1]
        rfl
      rw [← hr] at HRM
      clear hr hU hlen hin
      have hcase : r < 0 ∨ r = 0 ∨ (0 < r ∧ 1 < c) ∨ (0 < r ∧ c ≤ 1 ∧ c = o) ∨ (0 < r ∧ c ≤ 1 ∧ c ≠ o) := by omega
      rcases hcase with g1 | rfl | ⟨g1, g2⟩ | ⟨g1, g2, rfl⟩ | ⟨g1, g2, g3⟩
      · have HE := Lib.hid (chk_no (hok.trans (by rw [decide_eq_false (show ¬ r = 0 by omega), decide_eq_false (show ¬ 0 < r by omega)]; rfl)))
        clear hok
        go_wp2_with fail
        refine HRM.out.mono ?_
        rintro e w1 ⟨rfl, rfl⟩
        go_wp2_with fail
        go_ret
        exact ⟨by rw [HE.out]; rfl, rfl⟩
      · have HE := Lib.hid (chk_yes (hok.trans (by rw [decide_eq_true (rfl : (0 : Int) = 0)]; rfl)))
        clear hok
        go_wp2_with fail
        refine HRM.out.mono ?_
        rintro e w1 ⟨rfl, rfl⟩
        go_wp2_with fail
        go_ret
        exact ⟨by rw [HE.out]; rfl, rfl⟩
      · have HE := Lib.hid (chk_no (hok.trans (by rw [decide_eq_false (show ¬ r = 0 by omega), decide_eq_false (show ¬ c ≤ 1 by omega), Bool.and_false]; rfl)))
        clear hok
        go_wp2_with fail
        refine HRM.out.mono ?_
        rintro e w1 ⟨rfl, rfl⟩
        go_wp2_with fail
        go_ret
        exact ⟨by rw [HE.out]; rfl, rfl⟩
      · have HE := Lib.hid (chk_yes (hok.trans (by rw [decide_eq_true g1, decide_eq_true g2, decide_eq_true rfl]; simp)))
        clear hok
        go_wp2_with fail
        refine HRM.out.mono ?_
        rintro e w1 ⟨rfl, rfl⟩
        go_wp2_with fail
        go_ret
        exact ⟨by rw [HE.out]; rfl, rfl⟩
      · have HE := Lib.hid (chk_no (hok.trans (by rw [decide_eq_false (show ¬ r = 0 by omega), decide_eq_false g3, Bool.and_false]; rfl)))
        have hne : ((c : Int) != (o : Int)) = true := by rw [bne_iff_ne]; omega
        clear hok g3
        go_wp2_with fail
        refine HRM.out.mono ?_
        rintro e w1 ⟨rfl, rfl⟩
        go_wp2_with fail
        go_ret
        exact ⟨by rw [HE.out]; rfl, rfl⟩

/-- A number's highest bits so far. -/
theorem valH_take {l : List Int} {k : Nat} {x : Int} (h : l[k]? = some x) : valH (l.take (k + 1)) = 2 * valH (l.take k) + x := by
  rw [List.take_add_one, h]
  exact valH_snoc _ _
set_option maxHeartbeats 2000000 in
theorem rrefHigh (w : World) (A : Option Addr) (cap B : Nat) (l : List Int) (hr : RdI w B A l) (hl : l.length ≤ 15) (hb : AllBit l) :
    Calls Try.prog 19 #[.slice A l.length cap] w fun e w' => e = .returned (.int .i64 (valH l)) ∧ w = w' := by
  obtain ⟨n, hn⟩ : ∃ n, n = l.length := ⟨_, rfl⟩
  have HR := Lib.hid (⟨hr, hn, hb⟩ : _ ∧ _ ∧ _)
  rw [← hn] at hl ⊢
  clear hr hn hb
  go_enter Try.func19, Try.ntmps19
  go_wp2_with fail
  go_loop [3, 4] (fun v3 v4 => ∃ (k : Nat) (U : Int), k ≤ n ∧ 0 ≤ U ∧ U ≤ 32768 ∧ v4 = .int .i64 k ∧ v3 = .int .i64 U ∧ Hid (U = valH (l.take k))) (fun _ v => n - (intOf v).toNat)
  case atStart => exact ⟨0, 0, Nat.zero_le _, by omega, by omega, rfl, rfl, (show _ = _ from rfl)⟩
  case round =>
    obtain ⟨k, U, hk, hU0, hU1, rfl, rfl, HU⟩ := hrel
    by_cases hlt : k < n
    · have hkl : k < l.length := by have := HR.out.2.1; omega
      obtain ⟨blk, off, rfl, -, hc, -, -⟩ := HR.out.1.at_ hkl
      have hs := valH_take (List.getElem?_eq_getElem hkl)
      rw [← HU.out] at hs
      have hx := HR.out.2.2 l[k] (List.getElem_mem hkl)
      have hin := valH_in (g := l.take (k + 1)) (fun y hy => HR.out.2.2 y (List.mem_of_mem_take hy))
      have hpw : (2 : Int) ^ (l.take (k + 1)).length ≤ 32768 := by
        have h1 : (2 : Nat) ^ (l.take (k + 1)).length ≤ 2 ^ 15 := Nat.pow_le_pow_right (by omega) (by rw [List.length_take]; omega)
        have h2 : ((2 ^ (l.take (k + 1)).length : Nat) : Int) = 2 ^ (l.take (k + 1)).length := Int.natCast_pow 2 _
        omega
      obtain ⟨x, hxx⟩ : ∃ x, x = l[k] := ⟨_, rfl⟩
      rw [← hxx] at hc hs hx
      rw [hs] at hin
      obtain ⟨q1, q2⟩ := hin
      have q3 : 2 * U + x ≤ 32768 := by omega
      have HS := Lib.hid hs.symm
      clear hxx hkl hs hpw q2 hx
      go_wp2_with fail
      go_round
      case rel => exact ⟨k + 1, 2 * U + x, by omega, by omega, by omega, by go_num, by go_num, HS⟩
      case measure => simp [intOf]; omega
    · have HE := Lib.hid (show U = valH l by rw [HU.out, List.take_of_length_le (by have := HR.out.2.1; omega)])
      go_wp2_with fail
      go_ret
      exact ⟨by rw [HE.out]; rfl, rfl⟩
end Go.Proofs.Ytnibbopdjeagoaa.cd
