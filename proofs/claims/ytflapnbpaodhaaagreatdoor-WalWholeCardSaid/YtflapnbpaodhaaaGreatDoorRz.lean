/-
  rising: sectors by their homes.
-/
import Derived.Test.YtflapnbpaodhaaaGreatDoorSs
namespace Go.Proofs.YtflapnbpaodhaaaGreatDoor.sq
set_option maxRecDepth 100000
open Go.RowKit Go.Shelf Go.Sort
set_option maxRecDepth 100000

set_option maxHeartbeats 1000000 in
theorem values_any (w : World) (a : Option Addr) (len cap : Nat) :
    Calls Tryz.prog 50 #[.slice a len cap] w fun e w' => e = .returned (.func (.func 68) #[] #[.pointer (some ⟨w.heap.size, 0, none⟩)]) ∧ w' = w.alloc (.cells #[.slice a len cap] 30) := by
  go_enter Tryz.func50, Tryz.ntmps50
  go_wp2
  go_ret
  exact ⟨rfl, rfl⟩

theorem fr_of_below {w w' : World} (h : Below w.heap.size w w') : Fr (fun _ => False) w w' := ⟨h.os, h.tape, h.output, h.size, fun i hi _ => h.block i hi⟩
theorem collect_any (w : World) (Bs : Nat) (sv : Value) (zs : List Bk) (hN : zs.length ≤ 1000000000) (hBs : w.cell? ⟨Bs, 0, none⟩ = some sv) (hI : Bks w.heap.size w sv zs) (hlt : Bs < w.heap.size) :
    Calls Tryz.prog 66 #[.func (.func 68) #[] #[.pointer (some ⟨Bs, 0, none⟩)]] w fun e w' => ∃ v, e = .returned v ∧ w'.ownsRow w.heap.size 38 2 v zs.length (bkC zs) ∧ (v = .slice none 0 0 ↔ zs = []) ∧ Fr (fun _ => False) w w' := by
  refine ((callsIn_wide (n := 3)).1 (collect_in _ 3 trivial trivial rfl (by omega) 68 #[.pointer (some ⟨Bs, 0, none⟩)] trivial (enters_of Tryz.func68 (by kernel_rfl) rfl) zs hN w
    (values_stops _ 1 trivial rfl (by omega) Bs w.heap.size sv zs hN w hlt (Nat.le_refl _) hBs hI))).mono ?_
  rintro e w' ⟨v, rfl, ho, hn, hb⟩
  exact ⟨v, rfl, ho, hn, fr_of_below hb⟩

set_option maxHeartbeats 1000000 in
theorem sorted_any (w : World) (Bs : Nat) (sv : Value) (zs : List Bk) (hN : zs.length ≤ 1000000) (hBs : w.cell? ⟨Bs, 0, none⟩ = some sv) (hI : Bks w.heap.size w sv zs) (hlt : Bs < w.heap.size) :
    Calls Tryz.prog 49 #[.func (.func 68) #[] #[.pointer (some ⟨Bs, 0, none⟩)], .func (.func 51) #[] #[]] w fun e w' => ∃ v ys, e = .returned v ∧ SortedAt w w' v zs ys := by
  have HC := Lib.hid (collect_any w Bs sv zs (by omega) hBs hI hlt)
  clear hBs hI hlt
  go_enter Tryz.func49, Tryz.ntmps49
  go_wp2_with fail
  refine HC.out.mono ?_
  rintro e w2 ⟨v, rfl, ho, hn, hF⟩
  have HS := Lib.hid (sort_own w w2 v zs hN ho hn hF)
  clear ho hn hF
  go_wp2_with fail
  refine HS.out.mono ?_
  rintro e w3 ⟨rfl, ys, hy⟩
  have HY := Lib.hid hy
  clear hy
  go_wp2_with fail
  go_ret
  exact ⟨v, ys, rfl, HY.out⟩

theorem SortedAt.later {w0 w w' : World} {v : Value} {zs ys : List Bk} (h : SortedAt w w' v zs ys) (hF : Fr (fun _ => False) w0 w) : SortedAt w0 w' v zs ys := by
  obtain ⟨a, b, ⟨p, cap, rfl, hx⟩, hf⟩ := h
  refine ⟨a, b, ⟨p, cap, rfl, fun hne => ?_⟩, hF.trans hf (fun _ _ e => e)⟩
  obtain ⟨g, e1, e2, e3⟩ := hx hne
  exact ⟨g, e1, Nat.le_trans hF.size e2, e3⟩

set_option maxHeartbeats 1000000 in
theorem rising_any (w : World) (p : Option Addr) (cap n : Nat) (zs : List Bk) (hN : zs.length ≤ 1000000) (hI : Bks w.heap.size w (.slice p n cap) zs) :
    Calls Tryz.prog 33 #[.slice p n cap] w fun e w' => ∃ v ys, e = .returned v ∧ SortedAt w w' v zs ys := by
  have HV := Lib.hid (values_any w p n cap)
  have hF := (Fr.refl (fun _ => False) w).alloc (.cells #[.slice p n cap] 30)
  have hb : Below w.heap.size w (w.alloc (.cells #[.slice p n cap] 30)) := (Below.refl _ w).alloc (Nat.le_refl _) _
  have hI2 : Bks (w.alloc (.cells #[.slice p n cap] 30)).heap.size (w.alloc (.cells #[.slice p n cap] 30)) (.slice p n cap) zs := by
    rcases hI.below hb with e | ⟨b, off, c, e, hc⟩
    · exact .inl e
    · exact .inr ⟨b, off, c, e, Nat.lt_of_lt_of_le hc.1 hF.size, hc.2⟩
  have HS := Lib.hid (sorted_any (w.alloc (.cells #[.slice p n cap] 30)) w.heap.size (.slice p n cap) zs hN (by rw [cellAt (heap_alloc_new _ _)]; rfl) hI2 (by simp))
  have HF := Lib.hid hF
  clear hF hb hI2 hI
  go_enter Tryz.func33, Tryz.ntmps33
  go_wp2_with fail
  refine HV.out.mono ?_
  rintro e w2 ⟨rfl, rfl⟩
  go_wp2_with fail
  refine HS.out.mono ?_
  rintro e w3 ⟨v, ys, rfl, hy⟩
  have HY := Lib.hid (hy.later HF.out)
  clear hy
  go_wp2_with fail
  go_ret
  exact ⟨v, ys, rfl, HY.out⟩
end Go.Proofs.YtflapnbpaodhaaaGreatDoor.sq
