/-
  The program's writer at fixed blocks: like, Runs.
-/
import Derived.Test.YtcdhakfmljjaoaaGreatDoorFeU
namespace Go.Proofs.YtcdhakfmljjaoaaGreatDoor.ft
set_option maxRecDepth 100000
open Go.RowKit Go.Maps Go.Proofs.YtcdhakfmljjaoaaGreatDoor.fl Go.Proofs.YtcdhakfmljjaoaaGreatDoor.cd
set_option maxRecDepth 100000

theorem head_is {c : UInt8} : ∀ (i : Nat) (r : By), (∀ j, j < i → r[j]? = some c) → r[i]? ≠ some c → headN c r = i
  | 0, r, _, h2 => by
    unfold headN
    cases r with
    | nil => rfl
    | cons x r =>
      have hx : ¬ (x == c) = true := fun e => h2 (by rw [beq_iff_eq.1 e]; rfl)
      rw [List.takeWhile_cons, if_neg hx]
      rfl
  | i + 1, r, h1, h2 => by
    cases r with
    | nil => have := h1 0 (by omega); simp at this
    | cons x r =>
      have h0 := h1 0 (by omega)
      obtain rfl : x = c := by simpa using h0
      have := head_is i r (fun j hj => by have := h1 (j + 1) (by omega); simpa using this) (by simpa using h2)
      unfold headN at this ⊢
      rw [List.takeWhile_cons, if_pos (by simp), List.length_cons, this]
theorem head_le (c : UInt8) (r : By) : headN c r ≤ r.length := by
  unfold headN
  exact (List.takeWhile_sublist _).length_le
set_option maxHeartbeats 4000000 in
theorem plike (w : World) (A : Option Addr) (cap B : Nat) (c : UInt8) (r : By) (hr : Rd w B A (c :: r)) (hb : r.length + 1 ≤ 262144) : Calls Tryz.prog 60 #[.slice A (r.length + 1) cap] w fun e w' => e = .returned (.int .i64 ((1 + headN c r : Nat) : Int)) ∧ Calm w w' := by
  obtain ⟨n, hn⟩ : ∃ n, n = r.length + 1 := ⟨_, rfl⟩
  have HN := Lib.hid hn
  have HR := Lib.hid hr
  obtain ⟨U, hU⟩ : ∃ U, U = 1 + headN c r := ⟨_, rfl⟩
  have HU := Lib.hid hU
  obtain ⟨blk, off, rfl, hblk, hc0⟩ := hr.at_ (k := 0) (by simp)
  rw [← hn] at hb ⊢
  rw [← hU]
  have HC0 := Lib.hid (show w.cell? ⟨blk, off + 0, none⟩ = some (.int .u8 (c.toNat : Int)) from hc0)
  clear hr hn hU hblk hc0
  go_enter Tryz.func60, Tryz.ntmps60
  go_wp2_with fail
  go_loopw [3] (fun v3 wr => ∃ z : Nat, v3 = .int .i64 z ∧ 1 ≤ z ∧ z ≤ n ∧ Hid ((∀ j, j + 1 < z → r[j]? = some c) ∧ Calm w wr)) (fun v _ => n - (intOf v).toNat)
  case atStart => exact ⟨1, rfl, by omega, by have := HN.out; omega, (show _ ∧ _ from ⟨fun j hj => by omega, Calm.refl _⟩)⟩
  case round =>
    obtain ⟨z, rfl, hz1, hi, HC⟩ := hrel
    obtain ⟨i, hz⟩ : ∃ i, z = i + 1 := ⟨z - 1, by omega⟩
    by_cases hlt : z < n
    · have hil : i < r.length := by have := HN.out; omega
      have hzl : z < (c :: r).length := by rw [List.length_cons]; have := HN.out; omega
      obtain ⟨blk2, off2, e2, _, hcell⟩ := (HR.out.calm HC.out.2).at_ hzl
      cases e2
      have hc0 : wr.cell? ⟨blk, off, none⟩ = some (.int .u8 (c.toNat : Int)) := (HC.out.2.cell _).trans HC0.out
      have hget : (c :: r)[z] = r[i] := by subst hz; rfl
      rw [hget] at hcell
      obtain ⟨y, hy⟩ : ∃ y, y = r[i].toNat := ⟨_, rfl⟩
      obtain ⟨x, hx⟩ : ∃ x, x = c.toNat := ⟨_, rfl⟩
      rw [← hy] at hcell
      rw [← hx] at hc0
      have hz0 : (0 : Int) ≤ (z : Int) := by omega
      have hzn : (z : Int) < (n : Int) := by omega
      have hn0 : (0 : Int) < (n : Int) := by omega
      have hd : decide ((z : Int) < (n : Int)) = true := decide_eq_true hzn
      by_cases he : r[i] = c
      · have hxy : (y : Int) = (x : Int) := by rw [hy, hx, he]
        have HZ := Lib.hid (show ∀ k, (∀ j, j + 1 < z + 1 → r[j]? = some c) ∧ Calm w (wr.drewN k) from fun k => ⟨fun j hj => by
          rcases Nat.lt_or_ge j i with h | h
          · exact HC.out.1 j (by omega)
          · obtain rfl : j = i := by omega
            rw [List.getElem?_eq_getElem hil, he], HC.out.2.trans ⟨k, rfl⟩⟩)
        have hz2 : z + 1 ≤ n := by omega
        clear hy hx he hget hzl hil hz
        go_wp2_with fail
        go_quiet (fail)
        go_wp2_with fail
        go_roundw
        case rel => exact ⟨z + 1, by go_num, by omega, hz2, HZ.out _⟩
        case measure => simp [intOf]; omega
      · have hxy : ¬ (y : Int) = (x : Int) := fun e => he (UInt8.toNat_inj.1 (by omega))
        have HE := Lib.hid (show U = z by rw [HU.out, head_is i r (fun j hj => HC.out.1 j (by omega)) (by rw [List.getElem?_eq_getElem hil]; exact fun e => he (Option.some.inj e)), hz, Nat.add_comm])
        clear hy hx he hget hzl hil hz
        go_wp2_with fail
        go_quiet (fail)
        go_wp2_with fail
        go_ret
        rw [HE.out]
        exact ⟨rfl, HC.out.2.trans ⟨nq, rfl⟩⟩
    · have hzn : ¬ (z : Int) < (n : Int) := by omega
      have hd : decide ((z : Int) < (n : Int)) = false := decide_eq_false hzn
      have HE := Lib.hid (show U = z by rw [HU.out, head_is i r (fun j hj => HC.out.1 j (by omega)) (by rw [List.getElem?_eq_none (by have := HN.out; omega)]; simp), hz, Nat.add_comm])
      clear hz
      go_wp2_with fail
      go_quiet (fail)
      go_wp2_with fail
      go_ret
      rw [HE.out]
      exact ⟨rfl, HC.out.2.trans ⟨nq, rfl⟩⟩
end Go.Proofs.YtcdhakfmljjaoaaGreatDoor.ft
