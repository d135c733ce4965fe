/-
  The tables as the program's text lays them; a header that comes in, opened.
-/
import Derived.Test.YtgimiggffpokpaaGreatDoorHfI
import Derived.Test.YtgimiggffpokpaaGreatDoorRows
import Derived.LaidMore
import Derived.Lay
import Derived.SevenTiedAt
import Derived.Stop.Joined
import Derived.ProofKit
import Derived.OpenShut
import Derived.SizedLaws
import Derived.ChangeMaps5
namespace Go.Proofs.YtgimiggffpokpaaGreatDoor.he
set_option maxRecDepth 100000
open Go.ChangeShapes Go.WideShapes Go.ChangeAt Go.RowKit Go.ChangeMaps Go.Deep
set_option maxRecDepth 100000

theorem gPl : Tryz.prog.globalNamed "sutler/head.places" = some 0 := by kernel_rfl
theorem tPl : (Tryz.prog.globals[0]?).map (·.type) = some 113 := by kernel_rfl
theorem gDb : Tryz.prog.globalNamed "math/bits.deBruijn64tab" = some 6 := by kernel_rfl
theorem tDb : (Tryz.prog.globals[6]?).map (·.type) = some 167 := by kernel_rfl
def litN (x : Nat × Nat) : DataW Unit := .agg [.lit (.int .i64 (x.1 : Int)), .lit (.int .i64 (x.2 : Int))]
theorem laid_pl : (Rows.laid_sutler_head_places : DataW Unit) = .agg (plL.map litN) := by kernel_rfl
theorem place_row {W : World} {fuel : Nat} {cs : Array Value} {p : List MemPlace} (h : DataW.trod (fun _ => ()) Tryz.prog W 0 (fun _ => true) false fuel 113 cs.toList = some (.agg (plL.map litN), p)) : ∀ (j : Nat) (x : Nat × Nat), plL[j]? = some x → cs[j * 2]? = some (Value.int .i64 (x.1 : Int)) ∧ cs[j * 2 + 1]? = some (Value.int .i64 (x.2 : Int)) := by
  obtain ⟨xs, m1, rfl, hx1, hlen, hn3, hel⟩ := DataW.trod_array Tryz.underlying113 h
  have c3 : Tryz.prog.cellsOf 112 = 2 := by kernel_rfl
  simp only [Prod.mk.injEq, DataW.agg.injEq] at hx1
  have hm := hx1.1.symm
  clear hx1
  intro j x hj
  have hjl : j < 11 := (List.getElem?_eq_some_iff.1 hj).1
  have h0 := hel j (by omega)
  have hjx : j < xs.length := by omega
  rw [List.getElem?_eq_getElem hjx, c3] at h0
  have hj1 : (xs.map (·.1))[j]? = some (litN x) := by rw [hm, List.getElem?_map, hj]; rfl
  rw [List.getElem?_map, List.getElem?_eq_getElem hjx, Option.map_some, Option.some.injEq] at hj1
  have hl : j * 2 + 1 < cs.size := by
    rw [show Tryz.prog.cellsOf 113 = 22 from by kernel_rfl] at hlen
    simpa using (show j * 2 + 1 < cs.toList.length by omega)
  have hl0 : j * 2 < cs.size := by omega
  have hdr : (List.drop (j * 2) cs.toList).take 2 = [cs[j * 2], cs[j * 2 + 1]] := by
    rw [List.drop_eq_getElem_cons (by simpa using hl0), List.drop_eq_getElem_cons (by simpa using hl)]
    simp
  rw [hdr] at h0
  obtain ⟨y0, y1, n2, e1, _, e2, e3⟩ := trod_struct2 Tryz.underlying112 h0
  rw [e1] at hj1
  simp only [litN, DataW.agg.injEq, List.cons.injEq, and_true] at hj1
  obtain ⟨k0, f1, f2, _⟩ := DataW.trod_int Tryz.underlying3 (show DataW.trod (fun _ => ()) Tryz.prog W 0 (fun _ => true) false n2 3 [cs[j * 2]] = some y0 from e2)
  obtain ⟨k1, g1, g2, _⟩ := DataW.trod_int Tryz.underlying3 (show DataW.trod (fun _ => ()) Tryz.prog W 0 (fun _ => true) false n2 3 [cs[j * 2 + 1]] = some y1 from e3)
  rw [f2, g2] at hj1
  have hk0 : k0 = (x.1 : Int) := by simpa using hj1.1
  have hk1 : k1 = (x.2 : Int) := by simpa using hj1.2
  have hc0 : cs[j * 2] = .int .i64 k0 := by simpa using f1
  have hc1 : cs[j * 2 + 1] = .int .i64 k1 := by simpa using g1
  rw [Array.getElem?_eq_getElem hl0, Array.getElem?_eq_getElem hl, hc0, hc1, hk0, hk1]
  exact ⟨rfl, rfl⟩
theorem db_row {W : World} {fuel : Nat} {cs : Array Value} {p : List MemPlace} (h : DataW.trod (fun _ => ()) Tryz.prog W 0 (fun _ => true) false fuel 167 cs.toList = some (Rows.laid_math_bits_deBruijn64tab, p)) : cs[7]? = some (Value.int .u8 3) := by
  obtain ⟨xs, m1, rfl, hx1, hlen, hn3, hel⟩ := DataW.trod_array Tryz.underlying167 h
  have c3 : Tryz.prog.cellsOf 5 = 1 := by kernel_rfl
  simp only [Prod.mk.injEq, Rows.laid_math_bits_deBruijn64tab, DataW.agg.injEq] at hx1
  have hm := hx1.1.symm
  clear hx1
  have h0 := hel 7 (by decide)
  have hjx : 7 < xs.length := by omega
  rw [List.getElem?_eq_getElem hjx, c3, Nat.mul_one] at h0
  have hj1 : (xs.map (·.1))[7]? = some (DataW.lit (.int .u8 3)) := by rw [hm]; rfl
  rw [List.getElem?_map, List.getElem?_eq_getElem hjx, Option.map_some, Option.some.injEq] at hj1
  have hl : 7 < cs.size := by
    rw [show Tryz.prog.cellsOf 167 = 64 from by kernel_rfl] at hlen
    simpa using (show 7 < cs.toList.length by omega)
  have hc1 : (List.drop 7 cs.toList).take 1 = [cs[7]] := by
    rw [List.drop_eq_getElem_cons (by simpa using hl)]
    simp
  rw [hc1] at h0
  obtain ⟨k, e1, e2, _⟩ := DataW.trod_int Tryz.underlying5 h0
  rw [e2] at hj1
  have hk : k = 3 := by simpa using hj1
  have hc3 : cs[7] = .int .u8 k := by simpa using e1
  rw [Array.getElem?_eq_getElem hl, hc3, hk]
def laidA : List (String × DataW Unit) := [("math/bits.deBruijn32tab", Rows.laid_math_bits_deBruijn32tab), ("math/bits.deBruijn64tab", Rows.laid_math_bits_deBruijn64tab), ("internal/strconv.uint64pow10", Rows.laid_internal_strconv_uint64pow10), ("unicode/utf8.acceptRanges", Rows.laid_unicode_utf8_acceptRanges), ("sutler/head.places", Rows.laid_sutler_head_places), ("unicode/utf8.first", Rows.laid_unicode_utf8_first)]
theorem laid_met (os : Os) (args : Array Value) : laidMetH Tryz.prog laidA ((World.laidAll Tryz.prog os laidA).forCall (fun _ _ => 0) ⟨#[], args, []⟩).memory := by
  rw [MakeChecks.laidMetH_plain _ _ _ (by kernel_rfl)]
  exact laidMet_laidAll _ (by kernel_rfl) (by kernel_rfl)
theorem dt_of {W : World} (h : laidMetH Tryz.prog laidA W) : DT W := by
  rw [MakeChecks.laidMetH_plain _ _ _ (by kernel_rfl)] at h
  obtain ⟨ps, ⟨a0, t0, c0, f0, p0, q0, ga0, ta0, va0, da0, ⟨a1, t1, c1, f1, p1, q1, ga1, ta1, va1, da1, ⟨a2, t2, c2, f2, p2, q2, ga2, ta2, va2, da2, ⟨a3, t3, c3, f3, p3, q3, ga3, ta3, va3, da3, ⟨a4, t4, c4, f4, p4, q4, ga4, ta4, va4, da4, _⟩, _⟩, _⟩, _⟩, _⟩, _⟩ := h
  obtain rfl := Option.some.inj (gDb.symm.trans ga1)
  obtain rfl := Option.some.inj (gPl.symm.trans ga4)
  obtain rfl := Option.some.inj (tDb.symm.trans ta1)
  obtain rfl := Option.some.inj (tPl.symm.trans ta4)
  rw [laid_pl] at da4
  have rPl := place_row da4
  have rDb := db_row da1
  refine ⟨fun k a n hk => ?_, ?_, fun k a n hk => ?_⟩
  · rw [World.var?_cell gPl va4]
    exact (rPl k (a, n) hk).1
  · rw [World.var?_cell gDb va1]
    exact rDb
  · rw [World.var?_cell gPl va4]
    exact (rPl k (a, n) hk).2
theorem five {α : Type} : ∀ {l : List α}, l.length = 5 → ∃ a b c d e, l = [a, b, c, d, e]
  | [a, b, c, d, e], _ => ⟨a, b, c, d, e, rfl⟩
section
variable {H : Type} {enc : TypeId × Value → H} {w : World} {base : Nat} {spare : Nat → Bool} {held : Bool}
theorem bytes_max {A : Option Addr} {n cap : Nat} {d : DataW H} {ps : List MemPlace} (h : DataW.Trod enc Tryz.prog w base spare held 22 (.slice A n cap) d ps) : cap ≤ maxLen := by
  obtain ⟨fuel, hf⟩ := h
  have hf' : DataW.trod enc Tryz.prog w base spare held fuel 22 [.slice A n cap] = some (d, ps) := hf
  rcases open_ints Tryz.underlying22 Tryz.underlying5 cellsU hf' with ⟨hc, _⟩ | ⟨ad, ln, cp, zs, hc, _, hl, hm, _⟩
  · simp only [List.cons.injEq, Value.slice.injEq, and_true] at hc
    obtain ⟨_, _, rfl⟩ := hc
    exact Nat.zero_le _
  · simp only [List.cons.injEq, Value.slice.injEq, and_true] at hc
    obtain ⟨_, _, rfl⟩ := hc
    exact hm
/-- A header by value. -/
theorem head_open {r : Reach} {b0 : Nat} {v : Value} {d : DataW H} {p : List MemPlace} (hw : ∀ k ∈ d.weights Tryz.prog 57, k ≤ reachBytes) (hv : Value.okWide Tryz.prog w r b0 57 v) (h : DataW.Trod enc Tryz.prog w base spare held 57 v d p) :
    ∃ x : Hd, v = hdV x ∧ WfH x := by
  obtain ⟨cs, rfl, hsz⟩ := okWide_struct Tryz.underlying57 hv
  rw [show Tryz.prog.cellsOf 57 = 5 from by kernel_rfl] at hsz
  obtain ⟨fuel, hf⟩ := h
  obtain ⟨ys, n, _, hx, _, hyl, hg⟩ := DataW.trod_struct Tryz.underlying57 hf
  obtain ⟨y0, y1, y2, y3, y4, rfl⟩ := five (hyl.trans rfl)
  obtain ⟨l⟩ := cs
  obtain ⟨v0, v1, v2, v3, v4, rfl⟩ := five hsz
  obtain rfl := (Prod.mk.inj hx).1
  have t1 : Tryz.prog.cellsOf 9 = 1 := by kernel_rfl
  have t2 : Tryz.prog.cellsOf 3 = 1 := by kernel_rfl
  have f0 : DataW.trod enc Tryz.prog w base spare held n 9 (([v0, v1, v2, v3, v4].drop 0).take (Tryz.prog.cellsOf 9)) = some y0 := hg 0 _ rfl
  have f1 : DataW.trod enc Tryz.prog w base spare held n 9 (([v0, v1, v2, v3, v4].drop 1).take (Tryz.prog.cellsOf 9)) = some y1 := hg 1 _ rfl
  have f2 : DataW.trod enc Tryz.prog w base spare held n 3 (([v0, v1, v2, v3, v4].drop 2).take (Tryz.prog.cellsOf 3)) = some y2 := hg 2 _ rfl
  have f3 : DataW.trod enc Tryz.prog w base spare held n 3 (([v0, v1, v2, v3, v4].drop 3).take (Tryz.prog.cellsOf 3)) = some y3 := hg 3 _ rfl
  have f4 : DataW.trod enc Tryz.prog w base spare held n 5 (([v0, v1, v2, v3, v4].drop 4).take (Tryz.prog.cellsOf 5)) = some y4 := hg 4 _ rfl
  rw [t1] at f0 f1
  rw [t2] at f2 f3
  rw [cellsU] at f4
  have f0 : DataW.trod enc Tryz.prog w base spare held n 9 [v0] = some y0 := f0
  have f1 : DataW.trod enc Tryz.prog w base spare held n 9 [v1] = some y1 := f1
  have f2 : DataW.trod enc Tryz.prog w base spare held n 3 [v2] = some y2 := f2
  have f3 : DataW.trod enc Tryz.prog w base spare held n 3 [v3] = some y3 := f3
  have f4 : DataW.trod enc Tryz.prog w base spare held n 5 [v4] = some y4 := f4
  obtain ⟨s0, e0, g0, _⟩ := DataW.trod_string Tryz.underlying9 f0
  obtain ⟨s1, e1, g1, _⟩ := DataW.trod_string Tryz.underlying9 f1
  obtain ⟨n2, e2, _, w2⟩ := DataW.trod_int Tryz.underlying3 f2
  obtain ⟨n3, e3, _, w3⟩ := DataW.trod_int Tryz.underlying3 f3
  obtain ⟨n4, e4, _, w4⟩ := DataW.trod_int Tryz.underlying5 f4
  obtain rfl : v0 = .string s0 := by simpa using e0
  obtain rfl : v1 = .string s1 := by simpa using e1
  obtain rfl : v2 = .int .i64 n2 := by simpa using e2
  obtain rfl : v3 = .int .i64 n3 := by simpa using e3
  obtain rfl : v4 = .int .u8 n4 := by simpa using e4
  have hb4 : 0 ≤ n4 ∧ n4 ≤ 255 := by simpa using bounds_u8 w4
  have h0 : s0.data.toList.length ≤ reachBytes := hw _ (by
    simp only [DataW.weights, Tryz.underlying57, List.map, DataW.weightsEach, List.mem_append, g0]
    exact Or.inl (List.mem_singleton.2 rfl))
  have h1 : s1.data.toList.length ≤ reachBytes := hw _ (by
    simp only [DataW.weights, Tryz.underlying57, List.map, DataW.weightsEach, List.mem_append, g1]
    exact Or.inr (Or.inl (List.mem_singleton.2 rfl)))
  simp only [reachBytes] at h0 h1
  refine ⟨⟨s0.data.toList, s1.data.toList, n2, n3, UInt8.ofNat n4.toNat⟩, ?_, ⟨h0, h1, by have := bounds_i64 w2; simpa [Big] using this, by have := bounds_i64 w3; simpa [Big] using this⟩⟩
  have hn : ((UInt8.ofNat n4.toNat).toNat : Int) = n4 := by
    rw [UInt8.toNat_ofNat']
    omega
  show _ = Value.agg #[.string ⟨s0.data.toList.toArray⟩, .string ⟨s1.data.toList.toArray⟩, .int .i64 n2, .int .i64 n3, .int .u8 ((UInt8.ofNat n4.toNat).toNat : Int)]
  rw [hn]
theorem u8_of {k : Int} (h : 0 ≤ k ∧ k ≤ 255) : ∃ c : UInt8, k = (c.toNat : Int) := ⟨UInt8.ofNat k.toNat, by rw [UInt8.toNat_ofNat']; omega⟩
end
end Go.Proofs.YtgimiggffpokpaaGreatDoor.he
