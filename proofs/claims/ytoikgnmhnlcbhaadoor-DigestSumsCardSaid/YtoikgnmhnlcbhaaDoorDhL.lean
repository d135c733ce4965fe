/-
  The digest's tables as the program's text lays them.
-/
import Derived.Test.YtoikgnmhnlcbhaaDoorDhN
import Derived.Test.YtoikgnmhnlcbhaaDoorRows
import Derived.LaidMore
import Derived.Lay
import Derived.SevenTiedAt
import Derived.Stop.Joined
import Derived.ProofKit
import Derived.OpenShut
import Derived.SizedLaws
import Derived.ChangeMaps5
namespace Go.Proofs.YtoikgnmhnlcbhaaDoor.dg
set_option maxRecDepth 100000
open Go.ChangeShapes Go.WideShapes Go.ChangeAt Go.RowKit Go.ChangeMaps Go.Deep
set_option maxRecDepth 100000

theorem gIv : Tryd.prog.globalNamed "sutler/digest.iv" = some 0 := by kernel_rfl
theorem tIv : (Tryd.prog.globals[0]?).map (·.type) = some 45 := by kernel_rfl
theorem gRo : Tryd.prog.globalNamed "sutler/digest.rows" = some 1 := by kernel_rfl
theorem tRo : (Tryd.prog.globals[1]?).map (·.type) = some 65 := by kernel_rfl
theorem gFo : Tryd.prog.globalNamed "sutler/digest.fours" = some 2 := by kernel_rfl
theorem tFo : (Tryd.prog.globals[2]?).map (·.type) = some 67 := by kernel_rfl
def litK (K : IntKind) (x : Int) : DataW Unit := .lit (.int K x)
theorem litK_inj {K : IntKind} {x y : Int} (h : litK K x = litK K y) : x = y := by
  unfold litK at h
  simpa using h
/-- A row of numbers, as it is laid. -/
theorem num_row {W : World} {t e : TypeId} {K : IntKind} {fuel n : Nat} {cs : List Value} {p : List MemPlace} {L : List Int} (ht : Tryd.prog.underlying t = some (.array n e)) (he : Tryd.prog.underlying e = some (.int K)) (hce : Tryd.prog.cellsOf e = 1) (hc : Tryd.prog.cellsOf t = n) (hn : L.length = n)
    (h : DataW.trod (fun _ => ()) Tryd.prog W 0 (fun _ => true) false fuel t cs = some (.agg (L.map (litK K)), p)) : cs = L.map (Value.int K) := by
  obtain ⟨xs, m1, rfl, hx1, hlen, hn3, hel⟩ := DataW.trod_array ht h
  simp only [Prod.mk.injEq, DataW.agg.injEq] at hx1
  have hm := hx1.1.symm
  clear hx1
  apply List.ext_getElem?
  intro j
  by_cases hjn : j < n
  case neg => rw [List.getElem?_eq_none (by omega), List.getElem?_eq_none (by rw [List.length_map]; omega)]
  have h0 := hel j hjn
  have hjx : j < xs.length := by omega
  have hjL : j < L.length := by omega
  rw [List.getElem?_eq_getElem hjx, hce, Nat.mul_one] at h0
  have hj1 : (xs.map (·.1))[j]? = some (litK K L[j]) := by rw [hm, List.getElem?_map, List.getElem?_eq_getElem hjL]; rfl
  rw [List.getElem?_map, List.getElem?_eq_getElem hjx, Option.map_some, Option.some.injEq] at hj1
  have hl : j < cs.length := by omega
  have hdr : (List.drop j cs).take 1 = [cs[j]] := by
    rw [List.drop_eq_getElem_cons hl, List.take_succ_cons, List.take_zero]
  rw [hdr] at h0
  obtain ⟨k, e1, e2, _⟩ := DataW.trod_int he h0
  rw [e2] at hj1
  have hk : k = L[j] := litK_inj hj1
  have hc3 : cs[j] = .int K k := by simpa using e1
  rw [List.getElem?_eq_getElem hl, hc3, hk, List.getElem?_map, List.getElem?_eq_getElem hjL]
  rfl
def fo4 (i : Nat) : List Int := [(foN i 0 : Int), (foN i 1 : Int), (foN i 2 : Int), (foN i 3 : Int)]
def litF (i : Nat) : DataW Unit := .agg ((fo4 i).map (litK .i64))
theorem fours_row {W : World} {fuel : Nat} {cs : List Value} {p : List MemPlace} (h : DataW.trod (fun _ => ()) Tryd.prog W 0 (fun _ => true) false fuel 67 cs = some (.agg ((List.range 8).map litF), p)) : cs = foC := by
  obtain ⟨xs, m1, rfl, hx1, hlen, hn3, hel⟩ := DataW.trod_array Tryd.underlying67 h
  have c3 : Tryd.prog.cellsOf 66 = 4 := by kernel_rfl
  have c4 : Tryd.prog.cellsOf 67 = 32 := by kernel_rfl
  simp only [Prod.mk.injEq, DataW.agg.injEq] at hx1
  have hm := hx1.1.symm
  clear hx1
  rw [c4] at hlen
  have hp : ∀ i, i < 8 → (cs.drop (i * 4)).take 4 = (fo4 i).map (Value.int .i64) := fun i hi => by
    have h0 := hel i hi
    have hjx : i < xs.length := by omega
    rw [List.getElem?_eq_getElem hjx, c3] at h0
    have hj1 : (xs.map (·.1))[i]? = some (litF i) := by rw [hm, List.getElem?_map, List.getElem?_range hi]; rfl
    rw [List.getElem?_map, List.getElem?_eq_getElem hjx, Option.map_some, Option.some.injEq] at hj1
    obtain ⟨x, q, hx⟩ : ∃ x q, xs[i] = (x, q) := ⟨_, _, rfl⟩
    rw [hx] at hj1 h0
    have hj1 : x = litF i := hj1
    rw [hj1] at h0
    exact num_row Tryd.underlying66 Tryd.underlying3 (by kernel_rfl) (by kernel_rfl) rfl h0
  have hf : ∀ i, i < 8 → (foC.drop (i * 4)).take 4 = (fo4 i).map (Value.int .i64) := fun i hi => by
    rcases (show i = 0 ∨ i = 1 ∨ i = 2 ∨ i = 3 ∨ i = 4 ∨ i = 5 ∨ i = 6 ∨ i = 7 by omega) with rfl | rfl | rfl | rfl | rfl | rfl | rfl | rfl <;> rfl
  apply List.ext_getElem?
  intro j
  by_cases hj : j < 32
  case neg => rw [List.getElem?_eq_none (by omega), List.getElem?_eq_none (by show 32 ≤ j; omega)]
  have e : (cs.drop (j / 4 * 4)).take 4 = (foC.drop (j / 4 * 4)).take 4 := by rw [hp _ (by omega), hf _ (by omega)]
  have e2 : ((cs.drop (j / 4 * 4)).take 4)[j % 4]? = ((foC.drop (j / 4 * 4)).take 4)[j % 4]? := by rw [e]
  rw [List.getElem?_take_of_lt (by omega), List.getElem?_take_of_lt (by omega), List.getElem?_drop, List.getElem?_drop, show j / 4 * 4 + j % 4 = j by omega] at e2
  exact e2
def ivI : List Int := [1779033703, 3144134277, 1013904242, 2773480762, 1359893119, 2600822924, 528734635, 1541459225]
def rowI : List Int := [81985529216486895, 16881918945140062035, 13312731748010193300, 8733003861693448440, 10400822202260547645, 3200383143768358425, 14204332651957162635, 15816291393287259690, 8064173457993569445, 11710614767857974480]
theorem laid_iv : (Rows.laid_sutler_digest_iv : DataW Unit) = .agg (ivI.map (litK .u32)) := by kernel_rfl
theorem laid_ro : (Rows.laid_sutler_digest_rows : DataW Unit) = .agg (rowI.map (litK .u64)) := by kernel_rfl
theorem laid_fo : (Rows.laid_sutler_digest_fours : DataW Unit) = .agg ((List.range 8).map litF) := by kernel_rfl
theorem iv_ws : ivI.map (Value.int .u32) = ws ivL := by kernel_rfl
theorem row_ws : rowI.map (Value.int .u64) = rowC := by kernel_rfl
def laidA : List (String × DataW Unit) := [("sutler/digest.iv", Rows.laid_sutler_digest_iv), ("sutler/digest.rows", Rows.laid_sutler_digest_rows), ("sutler/digest.fours", Rows.laid_sutler_digest_fours)]
theorem laid_met (os : Os) (args : Array Value) : laidMetH Tryd.prog laidA ((World.laidAll Tryd.prog os laidA).forCall (fun _ _ => 0) ⟨#[], args, []⟩).memory := by
  rw [MakeChecks.laidMetH_plain _ _ _ (by kernel_rfl)]
  exact laidMet_laidAll _ (by kernel_rfl) (by kernel_rfl)
theorem range_of {W : World} {n : String} {g : Nat} {cs : Array Value} {L : List Value} (hg : Tryd.prog.globalNamed n = some g) (hv : W.var? Tryd.prog n = some cs) (h : cs.toList = L) : W.rangeAt g 0 L := fun j v hj => by
  rw [Nat.zero_add, World.var?_cell hg hv, ← Array.getElem?_toList, h]
  exact hj
theorem lt_of {W : World} {n : String} {g : Nat} {cs : Array Value} (hg : Tryd.prog.globalNamed n = some g) (hv : W.var? Tryd.prog n = some cs) : g < W.heap.size := by
  unfold World.var? at hv
  rw [hg] at hv
  apply Decidable.byContradiction
  intro hn
  rw [Option.bind_some, Array.getElem?_eq_none (by omega)] at hv
  cases hv
theorem dt_of {W : World} (h : laidMetH Tryd.prog laidA W) : DT W := by
  rw [MakeChecks.laidMetH_plain _ _ _ (by kernel_rfl)] at h
  obtain ⟨ps, ⟨a0, t0, c0, f0, p0, q0, ga0, ta0, va0, da0, ⟨a1, t1, c1, f1, p1, q1, ga1, ta1, va1, da1, ⟨a2, t2, c2, f2, p2, q2, ga2, ta2, va2, da2, _⟩, _⟩, _⟩, _⟩ := h
  obtain rfl := Option.some.inj (gIv.symm.trans ga0)
  obtain rfl := Option.some.inj (gRo.symm.trans ga1)
  obtain rfl := Option.some.inj (gFo.symm.trans ga2)
  obtain rfl := Option.some.inj (tIv.symm.trans ta0)
  obtain rfl := Option.some.inj (tRo.symm.trans ta1)
  obtain rfl := Option.some.inj (tFo.symm.trans ta2)
  rw [laid_iv] at da0
  rw [laid_ro] at da1
  rw [laid_fo] at da2
  have r0 := num_row Tryd.underlying45 Tryd.underlying41 (by kernel_rfl) (by kernel_rfl) rfl da0
  have r1 := num_row Tryd.underlying65 Tryd.underlying46 (by kernel_rfl) (by kernel_rfl) rfl da1
  have r2 := fours_row da2
  exact ⟨range_of gIv va0 (r0.trans iv_ws), range_of gRo va1 (r1.trans row_ws), range_of gFo va2 r2, lt_of gIv va0, lt_of gRo va1, lt_of gFo va2⟩
end Go.Proofs.YtoikgnmhnlcbhaaDoor.dg
