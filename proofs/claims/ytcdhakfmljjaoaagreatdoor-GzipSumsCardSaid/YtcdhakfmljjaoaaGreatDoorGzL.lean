/-
  The tables as the program's text lays them: crc's, the streams', the table of parts.
-/
import Derived.Test.YtcdhakfmljjaoaaGreatDoorFtL
import Derived.Test.YtcdhakfmljjaoaaGreatDoorJS
namespace Go.Proofs.YtcdhakfmljjaoaaGreatDoor.gz
set_option maxRecDepth 100000
open Go.ChangeShapes Go.WideShapes Go.ChangeAt Go.RowKit Go.ChangeMaps Go.Proofs.YtcdhakfmljjaoaaGreatDoor.fl Go.Proofs.YtcdhakfmljjaoaaGreatDoor.cd Go.Proofs.YtcdhakfmljjaoaaGreatDoor.ft
set_option maxRecDepth 100000

theorem gCrc : Tryz.prog.globalNamed "sutler/crc.halves" = some 1 := by kernel_rfl
theorem tCrc : (Tryz.prog.globals[1]?).map (·.type) = some 110 := by kernel_rfl
theorem gPrt : Tryz.prog.globalNamed "sutler/gzip.parts" = some 0 := by kernel_rfl
theorem tPrt : (Tryz.prog.globals[0]?).map (·.type) = some 101 := by kernel_rfl
def prtT : List (Int × Int) := [(4, 0), (8, 1), (16, 1), (2, 2)]
theorem laid_prt : (Rows.laid_sutler_gzip_parts : DataW Unit) = .agg (prtT.map litP) := by kernel_rfl
/-- A row of words, as it is laid. -/
theorem crc_row {W : World} {fuel : Nat} {cs : Array Value} {p : List MemPlace} (h : DataW.trod (fun _ => ()) Tryz.prog W 0 (fun _ => true) false fuel 110 cs.toList = some (Rows.laid_sutler_crc_halves, p)) : ∀ j, j < 16 → cs[j]? = some (Value.int .u32 ((tab.getD j 0 : Nat) : Int)) := by
  obtain ⟨xs, m1, rfl, hx1, hlen, hn3, hel⟩ := DataW.trod_array Tryz.underlying110 h
  have c3 : Tryz.prog.cellsOf 36 = 1 := by kernel_rfl
  simp only [Prod.mk.injEq, Rows.laid_sutler_crc_halves, DataW.agg.injEq] at hx1
  have hx2 := hx1.1.symm
  clear hx1
  intro j hj
  have h0 := hel j (by omega)
  have hjx : j < xs.length := by omega
  rw [List.getElem?_eq_getElem hjx, c3, Nat.mul_one] at h0
  have hm : xs.map (·.1) = tab.map (fun n : Nat => DataW.lit (.int .u32 (n : Int))) := hx2
  have hj1 : (xs.map (·.1))[j]? = some (DataW.lit (.int .u32 ((tab.getD j 0 : Nat) : Int))) := by
    rw [hm, List.getElem?_map, List.getD_eq_getElem?_getD, List.getElem?_eq_getElem (show j < tab.length from hj)]
    rfl
  rw [List.getElem?_map, List.getElem?_eq_getElem hjx, Option.map_some, Option.some.injEq] at hj1
  have hl : j < cs.size := by
    have h16 : Tryz.prog.cellsOf 110 = 16 := by kernel_rfl
    rw [h16] at hlen
    simpa using (show j < cs.toList.length by omega)
  have hc1 : (List.drop j cs.toList).take 1 = [cs[j]] := by
    rw [List.drop_eq_getElem_cons (by simpa using hl)]
    simp
  rw [hc1] at h0
  obtain ⟨k, e1, e2, _⟩ := DataW.trod_int Tryz.underlying36 h0
  rw [e2] at hj1
  have hk : k = ((tab.getD j 0 : Nat) : Int) := by simpa using hj1
  have hc3 : cs[j] = .int .u32 k := by simpa using e1
  rw [Array.getElem?_eq_getElem hl, hc3, hk]
/-- A row of pairs, as it is laid. -/
theorem part_row {W : World} {t : TypeId} {fuel n : Nat} {cs : Array Value} {p : List MemPlace} {L : List (Int × Int)} (ht : Tryz.prog.underlying t = some (.array n 100)) (hc : Tryz.prog.cellsOf t = 2 * n) (hn : L.length = n) (h : DataW.trod (fun _ => ()) Tryz.prog W 0 (fun _ => true) false fuel t cs.toList = some (.agg (L.map litP), p)) : ∀ (j : Nat) (x : Int × Int), L[j]? = some x → cs[j * 2]? = some (Value.int .i64 x.1) ∧ cs[j * 2 + 1]? = some (Value.int .i64 x.2) := by
  obtain ⟨xs, m1, rfl, hx1, hlen, hn3, hel⟩ := DataW.trod_array ht h
  have c3 : Tryz.prog.cellsOf 100 = 2 := by kernel_rfl
  have c1 : Tryz.prog.cellsOf 3 = 1 := by kernel_rfl
  simp only [Prod.mk.injEq, DataW.agg.injEq] at hx1
  have hm := hx1.1.symm
  clear hx1
  intro j x hj
  have hjl := (List.getElem?_eq_some_iff.1 hj).1
  have h0 := hel j (by omega)
  have hjx : j < xs.length := by omega
  rw [List.getElem?_eq_getElem hjx, c3] at h0
  have hj1 : (xs.map (·.1))[j]? = some (litP x) := by rw [hm, List.getElem?_map, hj]; rfl
  rw [List.getElem?_map, List.getElem?_eq_getElem hjx, Option.map_some, Option.some.injEq] at hj1
  have hl : j * 2 + 1 < cs.size := by
    rw [hc] at hlen
    simpa using (show j * 2 + 1 < cs.toList.length by omega)
  have hl0 : j * 2 < cs.size := by omega
  have hdr : (List.drop (j * 2) cs.toList).take 2 = [cs[j * 2], cs[j * 2 + 1]] := by
    rw [List.drop_eq_getElem_cons (by simpa using hl0), List.drop_eq_getElem_cons (by simpa using hl)]
    simp
  rw [hdr] at h0
  obtain ⟨y0, y1, n2, e1, _, e2, e3⟩ := trod_struct2 Tryz.underlying100 h0
  rw [e1] at hj1
  simp only [litP, DataW.agg.injEq, List.cons.injEq, and_true] at hj1
  obtain ⟨k0, f1, f2, _⟩ := DataW.trod_int Tryz.underlying3 (show DataW.trod (fun _ => ()) Tryz.prog W 0 (fun _ => true) false n2 3 [cs[j * 2]] = some y0 from e2)
  obtain ⟨k1, g1, g2, _⟩ := DataW.trod_int Tryz.underlying3 (show DataW.trod (fun _ => ()) Tryz.prog W 0 (fun _ => true) false n2 3 [cs[j * 2 + 1]] = some y1 from e3)
  rw [f2, g2] at hj1
  have hk0 : k0 = x.1 := litI_inj hj1.1
  have hk1 : k1 = x.2 := litI_inj hj1.2
  have hc0 : cs[j * 2] = .int .i64 k0 := by simpa using f1
  have hc1 : cs[j * 2 + 1] = .int .i64 k1 := by simpa using g1
  rw [Array.getElem?_eq_getElem hl0, Array.getElem?_eq_getElem hl, hc0, hc1, hk0, hk1]
  exact ⟨rfl, rfl⟩
def laidA : List (String × DataW Unit) := [("sutler/crc.halves", Rows.laid_sutler_crc_halves), ("sutler/flate.lengths", Rows.laid_sutler_flate_lengths), ("sutler/flate.distances", Rows.laid_sutler_flate_distances), ("sutler/flate.repeats", Rows.laid_sutler_flate_repeats), ("sutler/flate.sizes", Rows.laid_sutler_flate_sizes), ("sutler/flate.order", Rows.laid_sutler_flate_order), ("sutler/gzip.parts", Rows.laid_sutler_gzip_parts)]
theorem door_met7 (os : Os) (args : Array Value) : laidMetH Tryz.prog laidA ((World.doorLaid Tryz.prog 400 os).forCall (fun _ _ => 0) ⟨#[], args, []⟩).memory :=
  laidMetH_of_parts3 (fuel := 8) (laidMet_of_run' 8 (by kernel_rfl) (by kernel_rfl)) (by kernel_rfl) (by kernel_rfl)
theorem dt_of {W : World} (h : laidMetH Tryz.prog laidA W) : DT W := by
  rw [MakeChecks.laidMetH_plain _ _ _ (by kernel_rfl)] at h
  obtain ⟨ps, ⟨a0, t0, c0, f0, p0, q0, ga0, ta0, va0, da0, ⟨a1, t1, c1, f1, p1, q1, ga1, ta1, va1, da1, ⟨a2, t2, c2, f2, p2, q2, ga2, ta2, va2, da2, ⟨a3, t3, c3, f3, p3, q3, ga3, ta3, va3, da3, ⟨a4, t4, c4, f4, p4, q4, ga4, ta4, va4, da4, ⟨a5, t5, c5, f5, p5, q5, ga5, ta5, va5, da5, ⟨a6, t6, c6, f6, p6, q6, ga6, ta6, va6, da6, _⟩, _⟩, _⟩, _⟩, _⟩, _⟩, _⟩, _⟩ := h
  obtain rfl := Option.some.inj (gCrc.symm.trans ga0)
  obtain rfl := Option.some.inj (gLen.symm.trans ga1)
  obtain rfl := Option.some.inj (gPrt.symm.trans ga6)
  obtain rfl := Option.some.inj (gSiz.symm.trans ga4)
  obtain rfl := Option.some.inj (gOrd.symm.trans ga5)
  obtain rfl := Option.some.inj (gRep.symm.trans ga3)
  obtain rfl := Option.some.inj (gFar.symm.trans ga2)
  obtain rfl := Option.some.inj (tCrc.symm.trans ta0)
  obtain rfl := Option.some.inj (tLen.symm.trans ta1)
  obtain rfl := Option.some.inj (tPrt.symm.trans ta6)
  obtain rfl := Option.some.inj (tSiz.symm.trans ta4)
  obtain rfl := Option.some.inj (tOrd.symm.trans ta5)
  obtain rfl := Option.some.inj (tRep.symm.trans ta3)
  obtain rfl := Option.some.inj (tFar.symm.trans ta2)
  rw [laid_len] at da1
  rw [laid_prt] at da6
  rw [laid_siz] at da4
  rw [laid_ord] at da5
  rw [laid_rep] at da3
  rw [laid_far] at da2
  have rCrc := crc_row da0
  have rLen := pair_row Tryz.underlying130 (by kernel_rfl) rfl da1
  have rPrt := part_row Tryz.underlying101 (by kernel_rfl) rfl da6
  have rSiz := pair_row Tryz.underlying140 (by kernel_rfl) rfl da4
  have rOrd := int_row Tryz.underlying164 (by kernel_rfl) rfl da5
  have rRep := pair_row Tryz.underlying140 (by kernel_rfl) rfl da3
  have rFar := pair_row Tryz.underlying169 (by kernel_rfl) rfl da2
  refine ⟨fun j hj => ?_, ⟨fun k hk => ?_, fun k hk => ?_, fun k hk => ?_, fun k x hk => ?_, fun k x hk => ?_⟩, fun k x hk => ?_⟩
  · rw [World.var?_cell gCrc va0]
    exact rCrc j hj
  · rw [World.var?_cell gLen va1, World.var?_cell gLen va1]
    exact rLen k ((spanB k : Int), (spanX k : Int)) (by unfold lenT; rw [List.getElem?_map, List.getElem?_range hk]; rfl)
  · rw [World.var?_cell gFar va2, World.var?_cell gFar va2]
    exact rFar k ((farB k : Int), (farX k : Int)) (by unfold farT; rw [List.getElem?_map, List.getElem?_range hk]; rfl)
  · rw [World.var?_cell gRep va3, World.var?_cell gRep va3]
    exact rRep k ((repB k : Int), (repX k : Int)) (by unfold repT; rw [List.getElem?_map, List.getElem?_range hk]; rfl)
  · rw [World.var?_cell gSiz va4]
    have hk6 : k < 6 := (List.getElem?_eq_some_iff.1 hk).1
    rcases (show k = 0 ∨ k = 1 ∨ k = 2 ∨ k = 3 ∨ k = 4 ∨ k = 5 by omega) with rfl | rfl | rfl | rfl | rfl | rfl
    · cases hk; exact (rSiz 0 _ rfl).1
    · cases hk; exact (rSiz 0 _ rfl).2
    · cases hk; exact (rSiz 1 _ rfl).1
    · cases hk; exact (rSiz 1 _ rfl).2
    · cases hk; exact (rSiz 2 _ rfl).1
    · cases hk; exact (rSiz 2 _ rfl).2
  · rw [World.var?_cell gOrd va5]
    exact rOrd k (x : Int) (by unfold ordT; rw [List.getElem?_map, hk]; rfl)
  · rw [World.var?_cell gPrt va6]
    have hk8 : k < 8 := (List.getElem?_eq_some_iff.1 hk).1
    rcases (show k = 0 ∨ k = 1 ∨ k = 2 ∨ k = 3 ∨ k = 4 ∨ k = 5 ∨ k = 6 ∨ k = 7 by omega) with rfl | rfl | rfl | rfl | rfl | rfl | rfl | rfl
    · cases hk; exact (rPrt 0 _ rfl).1
    · cases hk; exact (rPrt 0 _ rfl).2
    · cases hk; exact (rPrt 1 _ rfl).1
    · cases hk; exact (rPrt 1 _ rfl).2
    · cases hk; exact (rPrt 2 _ rfl).1
    · cases hk; exact (rPrt 2 _ rfl).2
    · cases hk; exact (rPrt 3 _ rfl).1
    · cases hk; exact (rPrt 3 _ rfl).2
end Go.Proofs.YtcdhakfmljjaoaaGreatDoor.gz
