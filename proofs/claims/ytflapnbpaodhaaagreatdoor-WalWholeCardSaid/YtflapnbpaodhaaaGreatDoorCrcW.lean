/-
  What comes in, opened; the table as the program's text lays it.
-/
import Derived.Test.YtflapnbpaodhaaaGreatDoorRows
import Derived.Test.YtflapnbpaodhaaaGreatDoorJC
import Derived.ProofKit
import Derived.LaidMore
import Derived.OpenShut
import Derived.Stop.Joined
import Derived.SizedLaws
namespace Go.Proofs.YtflapnbpaodhaaaGreatDoor.cr
set_option maxRecDepth 100000
open Go.ChangeShapes Go.WideShapes Go.ChangeAt Go.RowKit

theorem u32_of_wf {a : Int} (h : (Lit.int .u32 a).wf = true) : ∃ s : W32, a = uv s := by
  have hb : 0 ≤ a ∧ a ≤ 4294967295 := by simpa using bounds_u32 h
  refine ⟨BitVec.ofNat 32 a.toNat, ?_⟩
  unfold uv
  rw [BitVec.toNat_ofNat, Nat.mod_eq_of_lt (by omega)]
  omega
theorem u8_of_wf {a : Int} (h : (Lit.int .u8 a).wf = true) : ∃ b : UInt8, a = (b.toNat : Int) := by
  have hb : 0 ≤ a ∧ a ≤ 255 := by simpa using bounds_u8 h
  refine ⟨UInt8.ofNat a.toNat, ?_⟩
  rw [UInt8.toNat_ofNat_of_lt' (by have := hb.2; show a.toNat < 256; omega)]
  omega

def laidL : List (String × DataW Unit) := [("sutler/crc.halves", Rows.laid_sutler_crc_halves)]
theorem gHalves : Tryz.prog.globalNamed "sutler/crc.halves" = some 0 := by kernel_rfl
theorem tHalves : (Tryz.prog.globals[0]?).map (·.type) = some 147 := by kernel_rfl
theorem door_met (os : Os) (args : Array Value) : laidMetH Tryz.prog laidL ((World.doorLaid Tryz.prog 400 os).forCall (fun _ _ => 0) ⟨#[], args, []⟩).memory :=
  laidMetH_of_parts3 (fuel := 8) (laidMet_of_run' 8 (by kernel_rfl) (by kernel_rfl)) (by kernel_rfl) (by kernel_rfl)

theorem tab_of_laid {W : World} (h : laidMetH Tryz.prog laidL W) : Tab W := by
  rw [MakeChecks.laidMetH_plain _ _ _ (by kernel_rfl)] at h
  obtain ⟨ps, ⟨g0, t0, cs0, f0, p0, q0, hg0, ht0, hv0, hd0, _⟩, _⟩ := h
  obtain rfl := Option.some.inj (gHalves.symm.trans hg0)
  obtain rfl := Option.some.inj (tHalves.symm.trans ht0)
  obtain ⟨xs, m1, rfl, hx1, hlen, hn3, hel⟩ := DataW.trod_array Tryz.underlying147 hd0
  have c3 : Tryz.prog.cellsOf 114 = 1 := by kernel_rfl
  simp only [Prod.mk.injEq, Rows.laid_sutler_crc_halves, DataW.agg.injEq] at hx1
  have hx2 := hx1.1.symm
  clear hx1
  intro j hj
  have h0 := hel j (by omega)
  have hjx : j < xs.length := by omega
  rw [List.getElem?_eq_getElem hjx, c3, Nat.mul_one] at h0
  have hm : xs.map (·.1) = tab.map (fun n : Nat => DataW.lit (.int .u32 (n : Int))) := hx2
  have hj1 : (xs.map (·.1))[j]? = some (DataW.lit (.int .u32 ((tab.getD j 0 : Nat) : Int))) := by
    rw [hm, List.getElem?_map, List.getD_eq_getElem?_getD, List.getElem?_eq_getElem (show j < tab.length from hj)]
    rfl
  rw [List.getElem?_map, List.getElem?_eq_getElem hjx, Option.map_some, Option.some.injEq] at hj1
  have hone : ∃ c, (List.drop j cs0.toList).take 1 = [c] ∧ cs0[j]? = some c := by
    have hl : j < cs0.size := by
      have h16 : Tryz.prog.cellsOf 147 = 16 := by kernel_rfl
      rw [h16] at hlen
      simpa using (show j < cs0.toList.length by omega)
    refine ⟨cs0[j], ?_, by simp [hl]⟩
    rw [List.drop_eq_getElem_cons (by simpa using hl)]
    simp
  obtain ⟨c, hc1, hc2⟩ := hone
  rw [hc1] at h0
  obtain ⟨k, e1, e2, _⟩ := DataW.trod_int Tryz.underlying114 h0
  rw [e2] at hj1
  have hk : k = ((tab.getD j 0 : Nat) : Int) := by simpa using hj1
  have hc3 : c = .int .u32 k := by simpa using e1
  rw [World.var?_cell hg0 hv0 j, hc2, hc3, hk]

end Go.Proofs.YtflapnbpaodhaaaGreatDoor.cr
