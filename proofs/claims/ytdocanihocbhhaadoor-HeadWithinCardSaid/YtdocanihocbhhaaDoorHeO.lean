/-
  The document's text; a slice of a header's bytes.
-/
import Derived.Test.YtdocanihocbhhaaDoorHeN
namespace Go.Proofs.YtdocanihocbhhaaDoor.he
set_option maxRecDepth 100000
open Go.RowKit Go.Maps
set_option maxRecDepth 100000

theorem text_stop {b : Bts} {i : Nat} (hi : i < b.length) (hz : b[i] = 0) (hk : ∀ j (h : j < b.length), j < i → b[j] ≠ 0) : textL b = b.take i := by
  have e : b = b.take i ++ b[i] :: b.drop (i + 1) := by
    rw [List.getElem_cons_drop, List.take_append_drop]
  unfold textL
  conv => lhs; rw [e]
  rw [takeWhile_all (p := fun x => decide (x ≠ 0)) (fun y hy => by
    obtain ⟨j, hj, rfl⟩ := List.getElem_of_mem hy
    have hj2 : j < i ∧ j < b.length := by rw [List.length_take] at hj; omega
    rw [List.getElem_take]
    exact decide_eq_true (hk j hj2.2 hj2.1)) (fun y hy => by
    cases hy
    rw [hz]; rfl)]
theorem text_all {b : Bts} (hk : ∀ j (h : j < b.length), b[j] ≠ 0) : textL b = b := by
  have := takeWhile_all (p := fun x => decide (x ≠ 0)) (l := b) (r := []) (fun y hy => by
    obtain ⟨j, hj, rfl⟩ := List.getElem_of_mem hy
    exact decide_eq_true (hk j hj)) (fun y hy => by cases hy)
  rw [List.append_nil] at this
  exact this
theorem text_conv {w : World} {B : Nat} {ad : Addr} {b : Bts} (hr : Rd w B (some ad) b) (cap i : Nat) (hi : i ≤ b.length) : (convert 22 9 (.slice (some ad) i cap)).run Tryd.prog w = .ok (.string (tx (b.take i))) w := by
  have hl : (b.take i).length = i := by rw [List.length_take]; omega
  have h := run_convert_bytes_back (P := Tryd.prog) w 22 9 5 ad cap (b.take i) Tryd.underlying22 Tryd.underlying5 Tryd.underlying9 (fun j hj => by
    obtain ⟨blk, off, e, _, hc⟩ := (hr.take i) (by intro e; rw [e] at hj; simp at hj)
    cases e
    rw [add_plain]
    exact hc j _ (List.getElem?_eq_getElem hj))
  rw [hl] at h
  exact h
set_option maxHeartbeats 4000000 in
theorem rtext (w : World) (ad : Addr) (cap B : Nat) (b : Bts) (hr : Rd w B (some ad) b) (hcap : b.length ≤ cap) (hl : b.length ≤ 140737488351232) :
    Calls Tryd.prog 27 #[.slice (some ad) b.length cap] w fun e w' => e = .returned (.string (tx (textL b))) ∧ w = w' := by
  have HR := Lib.hid hr
  have HCV := Lib.hid (fun i hi => text_conv hr cap i hi)
  obtain ⟨n, hn⟩ : ∃ n, n = b.length := ⟨_, rfl⟩
  rw [← hn] at hl hcap HCV ⊢
  have HN := Lib.hid hn
  obtain ⟨V, hV⟩ : ∃ V, V = tx (textL b) := ⟨_, rfl⟩
  have HV := Lib.hid hV
  rw [← hV]
  clear hr hn hV
  go_enter Tryd.func27, Tryd.ntmps27
  go_wp2_with fail
  go_loop [3] (fun v3 => ∃ i : Nat, i ≤ n ∧ v3 = .int .i64 i ∧ Hid (∀ j (h : j < b.length), j < i → b[j] ≠ 0)) (fun v => n - (intOf v).toNat)
  case atStart => exact ⟨0, Nat.zero_le _, rfl, (show ∀ j (h : j < b.length), _ → _ from fun j h h2 => by omega)⟩
  case round =>
    obtain ⟨i, hi, rfl, HK⟩ := hrel
    by_cases hlt : i < n
    · have hil : i < b.length := by rw [← HN.out]; exact hlt
      obtain ⟨blk, off, had, _, hc⟩ := HR.out.at_ hil
      cases had
      by_cases hx : b[i] = 0
      · have hc' : w.cell? ⟨blk, off + i, none⟩ = some (.int .u8 0) := by rw [hc, hx]; rfl
        have hcv := HCV.out i hi
        rw [← text_stop hil hx HK.out, ← HV.out] at hcv
        have h5 : (0 : Int) ≤ i := by omega
        have h6 : (i : Int) < n := by omega
        have h7 : i ≤ cap := by omega
        clear hx hil hc
        go_wp2_with fail
        go_ret
        exact ⟨rfl, rfl⟩
      · have hne := u8_ne (y := 0) hx
        have HE := Lib.hid (show ∀ j (h : j < b.length), j < i + 1 → b[j] ≠ 0 from fun j h h2 => by
          by_cases e : j = i
          · subst e; exact hx
          · exact HK.out j h (by omega))
        obtain ⟨x, hx2⟩ : ∃ x, x = b[i].toNat := ⟨_, rfl⟩
        rw [← hx2] at hc hne
        have hne' : ((x : Int) == 0) = false := hne
        have h5 : (0 : Int) ≤ i := by omega
        have h6 : (i : Int) < n := by omega
        clear hx hx2 hil hne
        go_wp2_with fail
        go_round
        case rel => exact ⟨i + 1, by omega, by go_num, HE⟩
        case measure => simp [intOf]; omega
    · have hge : ¬ (i : Int) < n := by omega
      have hcv := HCV.out n (Nat.le_refl _)
      rw [HN.out, List.take_length, ← HN.out] at hcv
      have HV2 := Lib.hid (show V = tx b from by rw [HV.out, text_all (fun j h => HK.out j h (by have := HN.out; omega))])
      rw [← HV2.out] at hcv
      go_wp2_with fail
      go_ret
      exact ⟨rfl, rfl⟩
end Go.Proofs.YtdocanihocbhhaaDoor.he
