/-
  The tables as the program's text lays them.
-/
import Derived.Test.YtcdhakfmljjaoaaGreatDoorRows
import Derived.Test.YtcdhakfmljjaoaaGreatDoorFtEnd
import Derived.ProofKit
import Derived.LaidMore
import Derived.OpenShut
import Derived.Stop.Joined
import Derived.SizedLaws
import Derived.ChangeSame
namespace Go.Proofs.YtcdhakfmljjaoaaGreatDoor.ft
set_option maxRecDepth 100000
open Go.ChangeShapes Go.WideShapes Go.ChangeAt Go.RowKit Go.ChangeMaps Go.Proofs.YtcdhakfmljjaoaaGreatDoor.fl Go.Proofs.YtcdhakfmljjaoaaGreatDoor.cd
set_option maxRecDepth 100000

def laidL : List (String × DataW Unit) := [("sutler/flate.lengths", Rows.laid_sutler_flate_lengths), ("sutler/flate.distances", Rows.laid_sutler_flate_distances), ("sutler/flate.repeats", Rows.laid_sutler_flate_repeats), ("sutler/flate.sizes", Rows.laid_sutler_flate_sizes), ("sutler/flate.order", Rows.laid_sutler_flate_order)]
theorem door_met (os : Os) (args : Array Value) : laidMetH Tryz.prog laidL ((World.doorLaid Tryz.prog 400 os).forCall (fun _ _ => 0) ⟨#[], args, []⟩).memory :=
  laidMetH_of_parts3 (fuel := 8) (laidMet_of_run' 8 (by kernel_rfl) (by kernel_rfl)) (by kernel_rfl) (by kernel_rfl)
def litI (x : Int) : DataW Unit := .lit (.int .i64 x)
def litP (x : Int × Int) : DataW Unit := .agg [litI x.1, litI x.2]
theorem litI_inj {x y : Int} (h : litI x = litI y) : x = y := by
  unfold litI at h
  simpa using h
/-- A row of numbers, as it is laid. -/
theorem int_row {W : World} {t : TypeId} {fuel n : Nat} {cs : Array Value} {p : List MemPlace} {L : List Int} (ht : Tryz.prog.underlying t = some (.array n 3)) (hc : Tryz.prog.cellsOf t = n) (hn : L.length = n) (h : DataW.trod (fun _ => ()) Tryz.prog W 0 (fun _ => true) false fuel t cs.toList = some (.agg (L.map litI), p)) : ∀ (j : Nat) (x : Int), L[j]? = some x → cs[j]? = some (Value.int .i64 x) := by
  obtain ⟨xs, m1, rfl, hx1, hlen, hn3, hel⟩ := DataW.trod_array ht h
  have c3 : Tryz.prog.cellsOf 3 = 1 := by kernel_rfl
  simp only [Prod.mk.injEq, DataW.agg.injEq] at hx1
  have hm := hx1.1.symm
  clear hx1
  intro j x hj
  have hjl := (List.getElem?_eq_some_iff.1 hj).1
  have h0 := hel j (by omega)
  have hjx : j < xs.length := by omega
  rw [List.getElem?_eq_getElem hjx, c3, Nat.mul_one] at h0
  have hj1 : (xs.map (·.1))[j]? = some (litI x) := by rw [hm, List.getElem?_map, hj]; rfl
  rw [List.getElem?_map, List.getElem?_eq_getElem hjx, Option.map_some, Option.some.injEq] at hj1
  have hl : j < cs.size := by
    rw [hc] at hlen
    simpa using (show j < cs.toList.length by omega)
  have hdr : (List.drop j cs.toList).take 1 = [cs[j]] := by
    rw [List.drop_eq_getElem_cons (by simpa using hl)]
    simp
  rw [hdr] at h0
  obtain ⟨k, e1, e2, _⟩ := DataW.trod_int Tryz.underlying3 h0
  rw [e2] at hj1
  have hk : k = x := litI_inj hj1
  have hc3 : cs[j] = .int .i64 k := by simpa using e1
  rw [Array.getElem?_eq_getElem hl, hc3, hk]
/-- A row of pairs, as it is laid. -/
theorem pair_row {W : World} {t : TypeId} {fuel n : Nat} {cs : Array Value} {p : List MemPlace} {L : List (Int × Int)} (ht : Tryz.prog.underlying t = some (.array n 129)) (hc : Tryz.prog.cellsOf t = 2 * n) (hn : L.length = n) (h : DataW.trod (fun _ => ()) Tryz.prog W 0 (fun _ => true) false fuel t cs.toList = some (.agg (L.map litP), p)) : ∀ (j : Nat) (x : Int × Int), L[j]? = some x → cs[j * 2]? = some (Value.int .i64 x.1) ∧ cs[j * 2 + 1]? = some (Value.int .i64 x.2) := by
  obtain ⟨xs, m1, rfl, hx1, hlen, hn3, hel⟩ := DataW.trod_array ht h
  have c3 : Tryz.prog.cellsOf 129 = 2 := by kernel_rfl
  have c1 : Tryz.prog.cellsOf 3 = 1 := by kernel_rfl
  simp only [Prod.mk.injEq, DataW.agg.injEq] at hx1
  have hm := hx1.1.symm
  clear hx1
  intro j x hj
  have hjl := (List.getElem?_eq_some_iff.1 hj).1
  have h0 := hel j (by omega)
  have hjx : j < xs.length := by omega
  rw [List.getElem?_eq_getElem hjx, c3] at h0
  have hj1 : (xs.map (·.1))[j]? = some (litP x) := by rw [hm, List.getElem?_map, hj]; rfl
  rw [List.getElem?_map, List.getElem?_eq_getElem hjx, Option.map_some, Option.some.injEq] at hj1
  have hl : j * 2 + 1 < cs.size := by
    rw [hc] at hlen
    simpa using (show j * 2 + 1 < cs.toList.length by omega)
  have hl0 : j * 2 < cs.size := by omega
  have hdr : (List.drop (j * 2) cs.toList).take 2 = [cs[j * 2], cs[j * 2 + 1]] := by
    rw [List.drop_eq_getElem_cons (by simpa using hl0), List.drop_eq_getElem_cons (by simpa using hl)]
    simp
  rw [hdr] at h0
  obtain ⟨y0, y1, n2, e1, _, e2, e3⟩ := trod_struct2 Tryz.underlying129 h0
  rw [e1] at hj1
  simp only [litP, DataW.agg.injEq, List.cons.injEq, and_true] at hj1
  obtain ⟨k0, f1, f2, _⟩ := DataW.trod_int Tryz.underlying3 (show DataW.trod (fun _ => ()) Tryz.prog W 0 (fun _ => true) false n2 3 [cs[j * 2]] = some y0 from e2)
  obtain ⟨k1, g1, g2, _⟩ := DataW.trod_int Tryz.underlying3 (show DataW.trod (fun _ => ()) Tryz.prog W 0 (fun _ => true) false n2 3 [cs[j * 2 + 1]] = some y1 from e3)
  rw [f2, g2] at hj1
  have hk0 : k0 = x.1 := litI_inj hj1.1
  have hk1 : k1 = x.2 := litI_inj hj1.2
  have hc0 : cs[j * 2] = .int .i64 k0 := by simpa using f1
  have hc1 : cs[j * 2 + 1] = .int .i64 k1 := by simpa using g1
  rw [Array.getElem?_eq_getElem hl0, Array.getElem?_eq_getElem hl, hc0, hc1, hk0, hk1]
  exact ⟨rfl, rfl⟩
def lenT : List (Int × Int) := (List.range 29).map fun k => ((spanB k : Int), (spanX k : Int))
def farT : List (Int × Int) := (List.range 30).map fun k => ((farB k : Int), (farX k : Int))
def repT : List (Int × Int) := (List.range 3).map fun k => ((repB k : Int), (repX k : Int))
def sizT : List (Int × Int) := [(257, 5), (1, 5), (4, 4)]
def ordT : List Int := orderL.map Int.ofNat
theorem laid_len : (Rows.laid_sutler_flate_lengths : DataW Unit) = .agg (lenT.map litP) := by kernel_rfl
theorem laid_far : (Rows.laid_sutler_flate_distances : DataW Unit) = .agg (farT.map litP) := by kernel_rfl
theorem laid_rep : (Rows.laid_sutler_flate_repeats : DataW Unit) = .agg (repT.map litP) := by kernel_rfl
theorem laid_siz : (Rows.laid_sutler_flate_sizes : DataW Unit) = .agg (sizT.map litP) := by kernel_rfl
theorem laid_ord : (Rows.laid_sutler_flate_order : DataW Unit) = .agg (ordT.map litI) := by kernel_rfl
theorem gLen : Tryz.prog.globalNamed "sutler/flate.lengths" = some 3 := by kernel_rfl
theorem gFar : Tryz.prog.globalNamed "sutler/flate.distances" = some 7 := by kernel_rfl
theorem gRep : Tryz.prog.globalNamed "sutler/flate.repeats" = some 6 := by kernel_rfl
theorem gSiz : Tryz.prog.globalNamed "sutler/flate.sizes" = some 4 := by kernel_rfl
theorem gOrd : Tryz.prog.globalNamed "sutler/flate.order" = some 5 := by kernel_rfl
theorem tLen : (Tryz.prog.globals[3]?).map (·.type) = some 130 := by kernel_rfl
theorem tFar : (Tryz.prog.globals[7]?).map (·.type) = some 169 := by kernel_rfl
theorem tRep : (Tryz.prog.globals[6]?).map (·.type) = some 140 := by kernel_rfl
theorem tSiz : (Tryz.prog.globals[4]?).map (·.type) = some 140 := by kernel_rfl
theorem tOrd : (Tryz.prog.globals[5]?).map (·.type) = some 164 := by kernel_rfl
theorem tab_of_laid {W : World} (h : laidMetH Tryz.prog laidL W) : Tabs W := by
  rw [MakeChecks.laidMetH_plain _ _ _ (by kernel_rfl)] at h
  obtain ⟨ps, ⟨a0, t0, c0, f0, p0, q0, ga0, ta0, va0, da0, ⟨a1, t1, c1, f1, p1, q1, ga1, ta1, va1, da1, ⟨a2, t2, c2, f2, p2, q2, ga2, ta2, va2, da2, ⟨a3, t3, c3, f3, p3, q3, ga3, ta3, va3, da3, ⟨a4, t4, c4, f4, p4, q4, ga4, ta4, va4, da4, _⟩, _⟩, _⟩, _⟩, _⟩, _⟩ := h
  obtain rfl := Option.some.inj (gLen.symm.trans ga0)
  obtain rfl := Option.some.inj (gFar.symm.trans ga1)
  obtain rfl := Option.some.inj (gRep.symm.trans ga2)
  obtain rfl := Option.some.inj (gSiz.symm.trans ga3)
  obtain rfl := Option.some.inj (gOrd.symm.trans ga4)
  obtain rfl := Option.some.inj (tLen.symm.trans ta0)
  obtain rfl := Option.some.inj (tFar.symm.trans ta1)
  obtain rfl := Option.some.inj (tRep.symm.trans ta2)
  obtain rfl := Option.some.inj (tSiz.symm.trans ta3)
  obtain rfl := Option.some.inj (tOrd.symm.trans ta4)
  rw [laid_len] at da0
  rw [laid_far] at da1
  rw [laid_rep] at da2
  rw [laid_siz] at da3
  rw [laid_ord] at da4
  have r0 := pair_row Tryz.underlying130 (by kernel_rfl) rfl da0
  have r1 := pair_row Tryz.underlying169 (by kernel_rfl) rfl da1
  have r2 := pair_row Tryz.underlying140 (by kernel_rfl) rfl da2
  have r3 := pair_row Tryz.underlying140 (by kernel_rfl) rfl da3
  have r4 := int_row Tryz.underlying164 (by kernel_rfl) rfl da4
  refine ⟨fun k hk => ?_, fun k hk => ?_, fun k hk => ?_, fun k x hk => ?_, fun k x hk => ?_⟩
  · rw [World.var?_cell gLen va0, World.var?_cell gLen va0]
    exact r0 k ((spanB k : Int), (spanX k : Int)) (by unfold lenT; rw [List.getElem?_map, List.getElem?_range hk]; rfl)
  · rw [World.var?_cell gFar va1, World.var?_cell gFar va1]
    exact r1 k ((farB k : Int), (farX k : Int)) (by unfold farT; rw [List.getElem?_map, List.getElem?_range hk]; rfl)
  · rw [World.var?_cell gRep va2, World.var?_cell gRep va2]
    exact r2 k ((repB k : Int), (repX k : Int)) (by unfold repT; rw [List.getElem?_map, List.getElem?_range hk]; rfl)
  · rw [World.var?_cell gSiz va3]
    have hk6 : k < 6 := (List.getElem?_eq_some_iff.1 hk).1
    rcases (show k = 0 ∨ k = 1 ∨ k = 2 ∨ k = 3 ∨ k = 4 ∨ k = 5 by omega) with rfl | rfl | rfl | rfl | rfl | rfl
    · cases hk; exact (r3 0 _ rfl).1
    · cases hk; exact (r3 0 _ rfl).2
    · cases hk; exact (r3 1 _ rfl).1
    · cases hk; exact (r3 1 _ rfl).2
    · cases hk; exact (r3 2 _ rfl).1
    · cases hk; exact (r3 2 _ rfl).2
  · rw [World.var?_cell gOrd va4]
    exact r4 k (x : Int) (by unfold ordT; rw [List.getElem?_map, hk]; rfl)
theorem u8_wf {a : Int} (h : (Lit.int .u8 a).wf = true) : ∃ b : UInt8, a = (b.toNat : Int) := by
  have hb : 0 ≤ a ∧ a ≤ 255 := by simpa using bounds_u8 h
  refine ⟨UInt8.ofNat a.toNat, ?_⟩
  rw [UInt8.toNat_ofNat_of_lt' (by have := hb.2; show a.toNat < 256; omega)]
  omega
end Go.Proofs.YtcdhakfmljjaoaaGreatDoor.ft
