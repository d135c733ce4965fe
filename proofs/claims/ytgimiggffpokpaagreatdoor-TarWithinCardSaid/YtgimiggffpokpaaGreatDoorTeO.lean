/-
  The program's members and Write at the chapter's entry; Record at the chapter's key and value.
-/
import Derived.Test.YtgimiggffpokpaaGreatDoorTeN
namespace Go.Proofs.YtgimiggffpokpaaGreatDoor.ta
set_option maxRecDepth 100000
open Go.RowKit Go.Maps Go.Deep
open Go.Proofs.YtgimiggffpokpaaGreatDoor.pt (Tx tx tx_toL tx_size toL toL_len)
open Go.Proofs.YtgimiggffpokpaaGreatDoor.he (Bts Hd hdV sV DT WfH printV parseV)
set_option maxRecDepth 100000

def hdA : Hd := ⟨[97], [], 0, 0, 48⟩
def hdB : Hd := ⟨[112, 97, 120], [], 0, 0, 48⟩
def hdX : Hd := ⟨[97], [], 420, 2, 48⟩
theorem wfA : WfH hdA := ⟨by decide, by decide, by decide, by decide⟩
theorem wfB : WfH hdB := ⟨by decide, by decide, by decide, by decide⟩
theorem wfX : WfH hdX := ⟨by decide, by decide, by decide, by decide⟩
theorem prA : (printV hdA).2 = 0 := by decide +kernel
theorem prB : (printV hdB).2 = 0 := by decide +kernel
theorem prX : (printV hdX).2 = 0 ∧ (printV hdX).1.length = 512 := by decide +kernel
/-- The chapter's archive. -/
def exM : Bts := (printV hdX).1 ++ [104, 105] ++ List.replicate 510 0
theorem exM_len : exM.length = 1024 := by decide +kernel
theorem exW : writeV [exE] = (exM ++ List.replicate 1024 0, 0) := by decide +kernel
set_option maxHeartbeats 1000000 in
theorem pmemberOf1 (w : World) : Calls Tryz.prog 24 #[.int .i64 1] w fun e w' => e = .returned (.int .u8 48) ∧ w = w' := by
  go_enter Tryz.func24, Tryz.ntmps24
  go_wp2_with fail
  go_ret
  exact ⟨rfl, rfl⟩
abbrev exEV : Value := .agg #[.string ⟨#[97]⟩, .int .i64 1, .int .i64 420, .string ⟨#[104, 105]⟩]
set_option maxHeartbeats 8000000 in
theorem pmembersX (w : World) (hD : DT w) : Calls Tryz.prog 15 #[exEV] w fun e w' => ∃ A c, e = .returned (.tuple #[.slice A 1024 c, .int .i64 0]) ∧ OB w w' (.slice A 1024 c) exM := by
  obtain ⟨o, ho⟩ : ∃ o : Obj, o = .cells #[.string ⟨#[97]⟩, .int .i64 1, .int .i64 420, .string ⟨#[104, 105]⟩] 30 := ⟨_, rfl⟩
  have hF0 : Fr (fun _ => False) w (w.alloc o) := (Fr.refl _ w).alloc o
  have HB := Lib.hid (heap_alloc_new w o)
  have HF0 := Lib.hid hF0
  have HFA := Lib.hid (fun wx (hF : Fr (fun _ => False) w wx) => (show Calls Tryz.prog 25 #[.agg #[.string ⟨#[97]⟩, .string ⟨#[]⟩, .int .i64 0, .int .i64 0, .int .u8 48]] wx fun e w' => e = .returned (.bool true) ∧ Fr (fun _ => False) wx w' from by
    have := pfits wx (hD.keep hF) hdA wfA
    rw [prA] at this
    exact this))
  have HFB := Lib.hid (fun wx (hF : Fr (fun _ => False) w wx) => (show Calls Tryz.prog 25 #[.agg #[.string ⟨#[112, 97, 120]⟩, .string ⟨#[]⟩, .int .i64 0, .int .i64 0, .int .u8 48]] wx fun e w' => e = .returned (.bool true) ∧ Fr (fun _ => False) wx w' from by
    have := pfits wx (hD.keep hF) hdB wfB
    rw [prB] at this
    exact this))
  have HME := Lib.hid (fun wx (hF : Fr (fun _ => False) w wx) => (show Calls Tryz.prog 27 #[.agg #[.string ⟨#[97]⟩, .string ⟨#[]⟩, .int .i64 420, .int .i64 0, .int .u8 48], .string ⟨#[104, 105]⟩] wx fun e w' => ∃ A c, e = .returned (.tuple #[.slice A 1024 c, .int .i64 0]) ∧ OB w w' (.slice A 1024 c) exM from
    (pmem wx (hD.keep hF) ⟨#[97]⟩ ⟨#[]⟩ 420 0 48 ⟨#[104, 105]⟩ 2 512 510 (printV hdX).1 hdX rfl wfX (Prod.ext rfl prX.1) prX.2 rfl (by omega) rfl (by omega) rfl (by omega) (by omega) 1024 rfl).mono fun e w' ⟨A, c, he, ho⟩ => ⟨A, c, he, OB.base (by rw [show (⟨#[104, 105]⟩ : ByteArray).toList = [104, 105] from tx_toL [104, 105]] at ho; exact ho) hF⟩))
  rw [ho] at HB HF0
  have HS := Lib.hid (fun wx (hF : Fr (fun _ => False) (w.alloc (.cells #[.string ⟨#[97]⟩, .int .i64 1, .int .i64 420, .string ⟨#[104, 105]⟩] 30)) wx) => (⟨(four_cells (keep_blk HB.out hF)).1, (four_cells (keep_blk HB.out hF)).2.1, (four_cells (keep_blk HB.out hF)).2.2.1⟩ : wx.cell? ⟨w.heap.size, 0, none⟩ = some (.string ⟨#[97]⟩) ∧ wx.cell? ⟨w.heap.size, 1, none⟩ = some (.int .i64 1) ∧ wx.cell? ⟨w.heap.size, 2, none⟩ = some (.int .i64 420)))
  clear hD ho hF0
  go_enter Tryz.func15, Tryz.ntmps15
  go_upto_region 1 with fail
  obtain ⟨wA, hwA⟩ : ∃ wA, wA = w.alloc (.cells #[.string ⟨#[97]⟩, .int .i64 1, .int .i64 420, .string ⟨#[104, 105]⟩] 30) := ⟨_, rfl⟩
  rw [← hwA] at HB HF0 HS ⊢
  obtain ⟨gE, hgE⟩ : ∃ gE, gE = w.heap.size := ⟨_, rfl⟩
  rw [← hgE] at HB HS ⊢
  have HGE := Lib.hid (show gE < wA.heap.size from by rw [hwA, hgE, World.size_alloc]; omega)
  clear hwA hgE
  go_cut [4] (fun s4 wz => ∃ g : Nat, s4 = .pointer (some ⟨g, 0, none⟩) ∧ Hid (wz.heap[g]? = some (.cells #[.string ⟨#[97]⟩, .string ⟨#[]⟩, .int .i64 420, .int .i64 0, .int .u8 48] 57) ∧ Fr (fun _ => False) wA wz))
  case first =>
    go_region_held3 (fun wx => wx.cell? ⟨gE, 0, none⟩ = some (.string ⟨#[97]⟩) ∧ wx.cell? ⟨gE, 1, none⟩ = some (.int .i64 1) ∧ wx.cell? ⟨gE, 2, none⟩ = some (.int .i64 420))
      (first
        | exact HS.out _ (Fr.refl _ _)
        | exact HS.out _ (Fr.refl _ _).drew
        | exact HS.out _ ((Fr.refl _ _).drew.alloc _)
        | exact HS.out _ ((Fr.refl _ _).alloc _).drew)
      (first
        | (go_at_call 24; refine (pmemberOf1 _).mono ?_; rintro e w' ⟨rfl, rfl⟩))
    all_goals
      go_wp2_with fail
      go_meet
      exact ⟨wA.heap.size, rfl, Lib.hid ⟨heap_alloc_new wA _, ((Fr.refl _ _).alloc _).drew⟩⟩
  case rest =>
    obtain ⟨g, rfl, HG⟩ := hcut
    obtain ⟨hg, hFc⟩ := HG.out
    have HFC := Lib.hid (HF0.out.trans hFc (fun _ _ e => e))
    have HGG := Lib.hid hg
    obtain ⟨c0, c1, c2, c3, c4, _, _, _, _, _⟩ := five_cells hg
    obtain ⟨e0, e1, e2, e3⟩ := four_cells (keep_blk HB.out hFc)
    clear hg hFc HG
    go_wp2_with fail
    refine (HFA.out _ HFC.out).mono ?_
    rintro e w2 ⟨rfl, hF2⟩
    have HF2 := Lib.hid (HFC.out.trans hF2 (fun _ _ e => e))
    have HG2 := Lib.hid (keep_blk HGG.out hF2)
    obtain ⟨d0, d1, d2, d3, d4, _, _, _, _, _⟩ := five_cells HG2.out
    clear hF2 c0 c1 c2 c3 c4 e0 e1 e2 e3
    go_wp2_with fail
    refine (HFB.out _ HF2.out).mono ?_
    rintro e w3 ⟨rfl, hF3⟩
    have HF3 := Lib.hid (HF2.out.trans hF3 (fun _ _ e => e))
    obtain ⟨f0, f1, f2, f3, f4, _, _, _, _, _⟩ := five_cells (keep_blk HG2.out hF3)
    clear hF3 d0 d1 d2 d3 d4
    go_wp2_with fail
    refine (HME.out _ HF3.out).mono ?_
    rintro e w4 ⟨A, c, rfl, ho⟩
    have HO := Lib.hid ho
    clear ho
    go_wp2_with fail
    go_ret2
    exact ⟨_, _, rfl, HO.out⟩
end Go.Proofs.YtgimiggffpokpaaGreatDoor.ta
