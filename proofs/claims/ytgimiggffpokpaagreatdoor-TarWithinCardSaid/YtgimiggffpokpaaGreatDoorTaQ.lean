/-
  What is asked of the program's archives; the law's works.
-/
import Derived.Test.YtgimiggffpokpaaGreatDoorTaA
import Derived.Shelf.Abstract
import Derived.Lib.SlBytesConst
namespace Go.Proofs.YtgimiggffpokpaaGreatDoor.ta
set_option maxRecDepth 100000
open Go.RowKit Go.Maps Go.ChangeShapes Go.WideShapes Go.Deep
open Go.Proofs.YtgimiggffpokpaaGreatDoor.pt (tx tx_toL tx_size)
open Go.Proofs.YtgimiggffpokpaaGreatDoor.he (Bts)
set_option maxRecDepth 100000

/-- New bytes, beside a number. -/
def NewB (w : World) (r : Bts × Int) (e : Ending) (w' : World) : Prop := ∃ A cap, e = .returned (.tuple #[.slice A r.1.length cap, .int .i64 r.2]) ∧ Own w' w.heap.size (.slice A r.1.length cap) r.1 ∧ Fr (fun _ => False) w w'
/-- The program's archives, as the chapter has them. D: what lies in the program's data. -/
structure TarP (D : World → Prop) : Prop where
  d_keep : ∀ {w w' : World}, D w → Fr (fun _ => False) w w' → D w'
  read : ∀ (w : World) (A : Option Addr) (cap : Nat) (b : Bts), Rd w w.heap.size A b → (A = none → cap = 0) → b.length ≤ cap → cap ≤ maxLen → b.length ≤ 140737488351232 → D w → Calls Tryz.prog 5 #[.slice A b.length cap] w (NewE w (readV b))
  write : ∀ (w : World) (g : Nat), RdE w w.heap.size (some ⟨g, 0, none⟩) [exE] → D w → Calls Tryz.prog 9 #[.slice (some ⟨g, 0, none⟩) 1 1] w (NewB w (writeV [exE]))
  record : ∀ (w : World), D w → Calls Tryz.prog 10 #[.string ⟨#[112, 97, 116, 104]⟩, .string ⟨#[97]⟩] w fun e w' => e = .returned (.string ⟨#[57, 32, 112, 97, 116, 104, 61, 97, 10]⟩) ∧ Fr (fun _ => False) w w'
abbrev entC : Array Value := #[.string ⟨#[97]⟩, .int .i64 1, .int .i64 420, .string ⟨#[104, 105]⟩]
theorem ent_row (w : World) : RdE (w.alloc (.cells entC 30)) (w.alloc (.cells entC 30)).heap.size (some ⟨w.heap.size, 0, none⟩) [exE] := fun _ => ⟨w.heap.size, 0, rfl, by rw [World.size_alloc]; omega, fun i x hi => by
  have h0 : i = 0 := by
    have := (List.getElem?_eq_some_iff.1 hi).1
    simp at this
    exact this
  subst h0
  obtain rfl : exE = x := by simpa using hi
  have hc : ∀ k, (w.alloc (.cells entC 30)).cell? ⟨w.heap.size, k, none⟩ = entC[k]? := fun k => by
    unfold World.cell?
    rw [heap_alloc_new]
    rfl
  exact ⟨hc 0, hc 1, hc 2, hc 3⟩⟩
set_option maxHeartbeats 4000000 in
theorem works_any {D : World → Prop} (HP : TarP D) (w : World) (hd : D w) : Calls Tryz.prog 4 #[] w fun e w' => e = .returned (.bool true) ∧ Fr (fun _ => False) w w' := by
  have HPP := Lib.hid HP
  have HDD := Lib.hid hd
  clear HP hd
  obtain ⟨w1, hmk, ho1, hF1⟩ : ∃ w1, (Instr.makeSlice 22 (.int .i64 1024) (.int .i64 1024)).run Tryz.prog w = .ok (.slice (some ⟨w.heap.size, 0, none⟩) 1024 1024) w1 ∧ Own w1 w.heap.size (.slice (some ⟨w.heap.size, 0, none⟩) 1024 1024) (List.replicate 1024 0) ∧ Fr (fun _ => False) w w1 := ⟨_, run_make_bytes 1024 (by omega) w, own_zb w 1024 (by omega), (Fr.refl _ w).alloc _⟩
  have hr1 : Rd w1 w1.heap.size (some ⟨w.heap.size, 0, none⟩) (List.replicate 1024 0) := by
    have h : Own w1 w.heap.size (.slice (some ⟨w.heap.size, 0, none⟩) (List.replicate 1024 (0 : UInt8)).length 1024) (List.replicate 1024 0) := by
      rw [List.length_replicate]
      exact ho1
    exact h.rd
  have HR1 := Lib.hid (HPP.out.read w1 (some ⟨w.heap.size, 0, none⟩) 1024 (List.replicate 1024 0) hr1 (fun e => by cases e) (by rw [List.length_replicate]; omega) (by decide) (by rw [List.length_replicate]; omega) (HPP.out.d_keep HDD.out hF1))
  rw [List.length_replicate, ex_none] at HR1
  have HF1 := Lib.hid hF1
  clear ho1 hr1 hF1
  go_enter Tryz.func4, Tryz.ntmps4
  go_wp2_with fail
  refine HR1.out.mono ?_
  rintro e w2 ⟨A2, c2, rfl, ho2, hF2⟩
  have HF2 := Lib.hid (HF1.out.trans hF2 (fun _ _ e => e))
  clear hF2 ho2 HR1
  go_wp2_with fail
  have HW := Lib.hid (HPP.out.write _ w2.heap.size (ent_row w2) (HPP.out.d_keep HDD.out (HF2.out.alloc _)))
  refine HW.out.mono ?_
  rintro e w3 ⟨A3, c3, rfl, ho3, hF3⟩
  obtain ⟨B, hB⟩ : ∃ B, B = (writeV [exE]).1 := ⟨_, rfl⟩
  obtain ⟨hz, hl, hr⟩ := ex_write
  rw [hz]
  rw [← hB] at ho3 hl hr ⊢
  obtain ⟨g, rfl, hg1, hg2, -⟩ := ho3.at_ (k := 0) (by omega)
  have hcap : B.length ≤ c3 := by
    rcases ho3.2 with ⟨e, _⟩ | ⟨_, _, _, e, _, _, hn, _⟩
    · cases e
    · cases e; omega
  have hmx := own_max ho3
  have HF3 := Lib.hid ((HF2.out.alloc _).trans hF3 (fun _ _ e => e))
  have HR3 := Lib.hid (HPP.out.read w3 (some ⟨g, 0, none⟩) c3 B ho3.rd (fun e => by cases e) hcap hmx (by omega) (HPP.out.d_keep HDD.out HF3.out))
  rw [hr, hl] at HR3
  rw [hl]
  clear HW ho3 hF3 hB hz hl hr hg1 hg2 hcap hmx
  go_wp2_with fail
  refine HR3.out.mono ?_
  rintro e w4 ⟨A4, c4, rfl, ho4, hF4⟩
  obtain ⟨b4, o4, rfl, kb, k0, k1, k2, k3⟩ := ho4.rd.at_ (k := 0) (x := exE) rfl
  have HF4 := Lib.hid (HF3.out.trans hF4 (fun _ _ e => e))
  have HO4 := Lib.hid (⟨kb, k3⟩ : _ ∧ _)
  have HC := Lib.hid (HPP.out.record w4 (HPP.out.d_keep HDD.out HF4.out))
  clear ho4 hF4 HR3 kb k0 k1 k2 k3
  go_wp2_with fail
  refine HC.out.mono ?_
  rintro e w5 ⟨rfl, hF5⟩
  have k3 : w5.cell? ⟨b4, o4 + 3, none⟩ = some (.string ⟨#[104, 105]⟩) := by
    have := (World.cell?_of_block (w := w4) (w' := w5) (a := ⟨b4, o4 + 0 * 4 + 3, none⟩) (hF5.block b4 HO4.out.1 id)).trans HO4.out.2
    rwa [show o4 + 0 * 4 + 3 = o4 + 3 by omega] at this
  have HF5 := Lib.hid (HF4.out.trans hF5 (fun _ _ e => e))
  clear HC hF5
  go_wp2_with fail
  go_ret
  exact ⟨rfl, HF5.out⟩
end Go.Proofs.YtgimiggffpokpaaGreatDoor.ta
