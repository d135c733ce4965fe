/-
  The tables as the program's text lays them, and the two errors of the library.
-/
import Derived.Test.YtgimiggffpokpaaGreatDoorHfL
import Derived.Test.YtgimiggffpokpaaGreatDoorTeEnd
namespace Go.Proofs.YtgimiggffpokpaaGreatDoor.ta
set_option maxRecDepth 100000
open Go.ChangeShapes Go.WideShapes Go.ChangeAt Go.RowKit Go.ChangeMaps Go.Deep
open Go.Proofs.YtgimiggffpokpaaGreatDoor.he (DT plL gPl tPl gDb tDb laid_pl place_row db_row)
set_option maxRecDepth 100000

def laidA : List (String × DataW Unit) := [("math/bits.deBruijn32tab", Rows.laid_math_bits_deBruijn32tab), ("math/bits.deBruijn64tab", Rows.laid_math_bits_deBruijn64tab), ("internal/strconv.uint64pow10", Rows.laid_internal_strconv_uint64pow10), ("unicode/utf8.acceptRanges", Rows.laid_unicode_utf8_acceptRanges), ("strconv.ErrRange", Rows.laid_strconv_ErrRange), ("strconv.ErrSyntax", Rows.laid_strconv_ErrSyntax), ("sutler/head.places", Rows.laid_sutler_head_places), ("unicode/utf8.first", Rows.laid_unicode_utf8_first)]
theorem laid_met (os : Os) (args : Array Value) : laidMetH Tryz.prog laidA ((World.laidAll Tryz.prog os laidA).forCall (fun _ _ => 0) ⟨#[], args, []⟩).memory := by
  rw [MakeChecks.laidMetH_plain _ _ _ (by kernel_rfl)]
  exact laidMet_laidAll _ (by kernel_rfl) (by kernel_rfl)
theorem dt_of {W : World} (h : laidMetH Tryz.prog laidA W) : DT W := by
  rw [MakeChecks.laidMetH_plain _ _ _ (by kernel_rfl)] at h
  obtain ⟨ps, ⟨a0, t0, c0, f0, p0, q0, ga0, ta0, va0, da0, ⟨a1, t1, c1, f1, p1, q1, ga1, ta1, va1, da1, ⟨a2, t2, c2, f2, p2, q2, ga2, ta2, va2, da2, ⟨a3, t3, c3, f3, p3, q3, ga3, ta3, va3, da3, ⟨a4, t4, c4, f4, p4, q4, ga4, ta4, va4, da4, ⟨a5, t5, c5, f5, p5, q5, ga5, ta5, va5, da5, ⟨a6, t6, c6, f6, p6, q6, ga6, ta6, va6, da6, _⟩, _⟩, _⟩, _⟩, _⟩, _⟩, _⟩, _⟩ := h
  obtain rfl := Option.some.inj (gDb.symm.trans ga1)
  obtain rfl := Option.some.inj (gPl.symm.trans ga6)
  obtain rfl := Option.some.inj (tDb.symm.trans ta1)
  obtain rfl := Option.some.inj (tPl.symm.trans ta6)
  rw [laid_pl] at da6
  have rPl := place_row da6
  have rDb := db_row da1
  refine ⟨fun k a n hk => ?_, ?_, fun k a n hk => ?_⟩
  · rw [World.var?_cell gPl va6]
    exact (rPl k (a, n) hk).1
  · rw [World.var?_cell gDb va1]
    exact rDb
  · rw [World.var?_cell gPl va6]
    exact (rPl k (a, n) hk).2
end Go.Proofs.YtgimiggffpokpaaGreatDoor.ta
