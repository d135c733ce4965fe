/-
  The document's Octal, Sum, Empty, text.
-/
import Derived.Test.YtgimiggffpokpaaGreatDoorJD
import Derived.Laws.IdiomStrings
import Derived.Lib.Strings
namespace Go.Proofs.YtgimiggffpokpaaGreatDoor.he
set_option maxRecDepth 100000
open Go.RowKit Go.Maps
set_option maxRecDepth 100000

abbrev tx (l : Bts) : ByteArray := ⟨l.toArray⟩
theorem toL (s : ByteArray) : s.toList = s.data.toList := ByteArray.toList_eq s
theorem tx_toL (l : Bts) : (tx l).toList = l := by rw [toL]
theorem tx_of (s : ByteArray) : tx s.toList = s := by rw [toL]
theorem u8_ne {x y : UInt8} (h : x ≠ y) : ((x.toNat : Int) == (y.toNat : Int)) = false := beq_eq_false_iff_ne.2 (fun e => h (UInt8.toNat_inj.1 (by omega)))
end Go.Proofs.YtgimiggffpokpaaGreatDoor.he
