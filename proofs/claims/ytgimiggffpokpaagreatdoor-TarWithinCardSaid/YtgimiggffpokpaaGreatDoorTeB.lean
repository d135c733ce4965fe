/-
  The library's Cut at a byte; the program's cutRecord.
-/
import Derived.Test.YtgimiggffpokpaaGreatDoorTeA
import Derived.Test.YtgimiggffpokpaaGreatDoorHfB
namespace Go.Proofs.YtgimiggffpokpaaGreatDoor.ta
set_option maxRecDepth 100000
open Go.RowKit Go.Maps
open Go.Proofs.YtgimiggffpokpaaGreatDoor.pt (Tx tx tx_toL tx_size toL toL_len)
open Go.Proofs.YtgimiggffpokpaaGreatDoor.he (Bts bytesOf_nums text_conv)
open Go.Proofs.YtgimiggffpokpaaGreatDoor.vr (wholeV wholeB numL digB)
set_option maxRecDepth 100000

set_option maxHeartbeats 1000000 in
theorem bytes_at (w : World) (A : Option Addr) (B n cap : Nat) (l : Bts) (c : UInt8) (h : Rd w B A l) (hn : n = l.length) : (Extern.BytealgIndexByte.indexByte #[.slice A n cap, .int .u8 (c.toNat : Int)]).run Tryz.prog w = .ok (.int .i64 (Lib.indexByte l c)) w := by
  subst hn
  cases A with
  | none =>
    have e : l = [] := by
      apply Decidable.byContradiction
      intro hne
      obtain ⟨_, _, e2, _⟩ := h hne
      cases e2
    subst e
    exact Lib.run_indexByteNil (P := Tryz.prog) w 0 cap (c.toNat : Int)
  | some a =>
    have h1 := Lib.run_indexByteAt (P := Tryz.prog) w a l.length cap (l.map fun x => (x.toNat : Int)) (by rw [List.length_map]) (fun i hi => by
      rw [h.src i (.int .u8 (l[i].toNat : Int)) (by rw [bs_get, List.getElem?_eq_getElem hi]; rfl), List.getD_eq_getElem?_getD, List.getElem?_map, List.getElem?_eq_getElem hi]
      rfl) (c.toNat : Int)
    rw [bytesOf_nums] at h1
    rw [show (c.toNat : Int).toNat.toUInt8 = c from by rw [Int.toNat_natCast]; exact UInt8.ofNat_toNat] at h1
    exact h1
set_option maxHeartbeats 1000000 in
theorem pindex (w : World) (A : Option Addr) (B n cap : Nat) (l : Bts) (c : UInt8) (x : Int) (hx : x = (c.toNat : Int)) (h : Rd w B A l) (hn : n = l.length) : Calls Tryz.prog 102 #[.slice A n cap, .int .u8 x] w fun e w' => e = .returned (.int .i64 (Lib.indexByte l c)) ∧ w = w' := by
  have H := Lib.hid (bytes_at w A B n cap l c h hn)
  obtain ⟨R, hR⟩ : ∃ R, R = Lib.indexByte l c := ⟨_, rfl⟩
  rw [← hR, ← hx] at H
  rw [← hR]
  clear h hn hR hx
  go_enter Tryz.func102, Tryz.ntmps102
  go_wp2
  rw [run_callFunc_extern Tryz.func127 (by kernel_rfl) (by kernel_rfl) (by kernel_rfl) (e := Extern.BytealgIndexByte.indexByte) (by kernel_rfl), H.out]
  simp only [Result.andThen]
  rw [Oper.upon_value]
  go_wp2
  go_ret
  exact ⟨rfl, rfl⟩
set_option maxHeartbeats 2000000 in
theorem pidx (w : World) (A : Option Addr) (B n cap g : Nat) (l : Bts) (c : UInt8) (x : Int) (hx : x = (c.toNat : Int)) (h : Rd w B A l) (hn : n = l.length) (hg : w.cell? ⟨g, 0, none⟩ = some (.int .u8 x)) : Calls Tryz.prog 77 #[.slice A n cap, .slice (some ⟨g, 0, none⟩) 1 1] w fun e w' => e = .returned (.int .i64 (Lib.indexByte l c)) ∧ w = w' := by
  have H := Lib.hid (pindex w A B n cap l c x hx h hn)
  obtain ⟨R, hR⟩ : ∃ R, R = Lib.indexByte l c := ⟨_, rfl⟩
  rw [← hR] at H ⊢
  clear h hn hR hx
  go_enter Tryz.func77, Tryz.ntmps77
  go_wp2_with fail
  refine H.out.mono ?_
  rintro e w' ⟨rfl, rfl⟩
  go_wp2_with fail
  go_ret
  exact ⟨rfl, rfl⟩
/-- What Cut answers: what is ahead of the byte, and what is behind it, if it is there. -/
def CutA (w : World) (B : Nat) (A : Option Addr) (cap : Nat) (l : Bts) (c : UInt8) (e : Ending) (w' : World) : Prop :=
  ((c ∉ l ∧ l.takeWhile (fun x => decide (x ≠ c)) = l ∧ e = .returned (.tuple #[.slice A l.length cap, .slice none 0 0, .bool false])) ∨
    (∃ (i : Nat) (A2 : Option Addr), c ∈ l ∧ i < l.length ∧ l.takeWhile (fun x => decide (x ≠ c)) = l.take i ∧ Rd w B A2 (l.drop (i + 1)) ∧ (A2 = none → False) ∧ e = .returned (.tuple #[.slice A i cap, .slice A2 (l.length - (i + 1)) (cap - (i + 1)), .bool true]))) ∧ Calm w w'
set_option maxHeartbeats 4000000 in
theorem pcut (w : World) (blk off B n cap g : Nat) (l : Bts) (c : UInt8) (x : Int) (hx : x = (c.toNat : Int)) (h : Rd w B (some ⟨blk, off, none⟩) l) (hn : n = l.length) (hc : n ≤ cap) (hb : n ≤ 140737488355328) (hg : w.cell? ⟨g, 0, none⟩ = some (.int .u8 x)) : Calls Tryz.prog 55 #[.slice (some ⟨blk, off, none⟩) n cap, .slice (some ⟨g, 0, none⟩) 1 1] w (CutA w B (some ⟨blk, off, none⟩) cap l c) := by
  have H := Lib.hid (pidx w (some ⟨blk, off, none⟩) B n cap g l c x hx h hn hg)
  rcases index_while c l with ⟨h1, h2, h3⟩ | ⟨i, h1, h2, h3, h4, h5⟩
  · rw [h1] at H
    have HEND := Lib.hid (show CutA w B (some ⟨blk, off, none⟩) cap l c (.returned (.tuple #[.slice (some ⟨blk, off, none⟩) n cap, .slice none 0 0, .bool false])) w from ⟨Or.inl ⟨h2, h3, by rw [hn]⟩, Calm.refl _⟩)
    clear h h1 h2 h3 hn hx
    go_enter Tryz.func55, Tryz.ntmps55
    go_wp2_with fail
    refine H.out.mono ?_
    rintro e w' ⟨rfl, rfl⟩
    go_wp2_with fail
    go_ret3
    exact HEND.out
  · rw [h1] at H
    have hin : i < n := by omega
    have HEND := Lib.hid (fun wx (hC : Calm w wx) => (show CutA w B (some ⟨blk, off, none⟩) cap l c (.returned (.tuple #[.slice (some ⟨blk, off, none⟩) i cap, .slice (if cap = i + 1 then some ⟨blk, off, none⟩ else (some ⟨blk, off, none⟩ : Option Addr).map (·.add (i + 1))) (n - (i + 1)) (cap - (i + 1)), .bool true])) wx from ⟨Or.inr ⟨i, _, h4, h2, h5, h.drop (cap := cap) (by omega), (by intro e; split at e <;> cases e), by rw [hn]⟩, hC⟩))
    have k1 : IntKind.i64.wrap ((i : Int) + 1) = ((i + 1 : Nat) : Int) := by rw [IntWalk.i64_in _ (by omega)]; omega
    have k2 : i + 1 ≤ n := by omega
    have k3 : i ≤ cap := by omega
    clear h h1 h2 h3 h4 h5 hn hx
    have k4 : (0 : Int) ≤ (i : Int) + 1 := by omega
    by_cases hci : cap = i + 1
    · subst hci
      obtain rfl : n = i + 1 := by omega
      go_enter Tryz.func55, Tryz.ntmps55
      go_wp2_with fail
      refine H.out.mono ?_
      rintro e w' ⟨rfl, rfl⟩
      go_wp2_with fail
      go_quiet (fail)
      go_wp2_with fail
      go_ret3
      have := HEND.out _ ⟨nq, rfl⟩
      simp only [if_true, Nat.sub_self] at this
      exact this
    · rw [if_neg hci] at HEND
      go_enter Tryz.func55, Tryz.ntmps55
      go_wp2_with fail
      refine H.out.mono ?_
      rintro e w' ⟨rfl, rfl⟩
      go_wp2_with fail
      go_quiet (fail)
      go_wp2_with fail
      go_ret3
      exact HEND.out _ ⟨nq, rfl⟩
end Go.Proofs.YtgimiggffpokpaaGreatDoor.ta
