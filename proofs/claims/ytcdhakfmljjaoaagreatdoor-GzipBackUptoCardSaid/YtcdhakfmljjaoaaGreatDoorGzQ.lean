/-
  What is asked of the program's frames.
-/
import Derived.Test.YtcdhakfmljjaoaaGreatDoorJM
import Derived.Test.YtcdhakfmljjaoaaGreatDoorJD
import Derived.Deep.DeepCutAuto
import Derived.Deep.CutBlock
namespace Go.Proofs.YtcdhakfmljjaoaaGreatDoor.gz
set_option maxRecDepth 100000
open Go.RowKit Go.Maps Go.Proofs.YtcdhakfmljjaoaaGreatDoor.fl Go.Proofs.YtcdhakfmljjaoaaGreatDoor.cd Go.Proofs.YtcdhakfmljjaoaaGreatDoor.ft
set_option maxRecDepth 100000

/-- The program's frames, as the chapter has them. D: what lies in the program's data; sum: the checksum. -/
structure GzipP (D : World → Prop) (sum : By → Nat) (ls : Nat → Nat) : Prop where
  lens : LenSym ls
  small : ∀ b, sum b < 4294967296
  d_keep : ∀ {w w' : World}, D w → Fr (fun _ => False) w w' → D w'
  ex : wrapV sum ls [97] = [31, 139, 8, 0, 0, 0, 0, 0, 0, 0, 75, 4, 0, 67, 190, 183, 232, 1, 0, 0, 0]
  opn : ∀ (w : World) (A : Option Addr) (cap : Nat) (b : By) (most : Int), Rd w w.heap.size A b → (A = none → cap = 0) → b.length ≤ cap → b.length ≤ 4000000 → Big most → D w → Calls Tryz.prog 14 #[.slice A b.length cap, .int .i64 most] w fun e w' => ∃ A' cap', e = .returned (.tuple #[.slice A' (openV sum b most).1.length cap', .int .i64 (openV sum b most).2]) ∧ Rd w' w'.heap.size A' (openV sum b most).1 ∧ Fr (fun _ => False) w w'
  wrap : ∀ (w : World) (A : Option Addr) (cap : Nat) (b : By), Rd w w.heap.size A b → (A = none → cap = 0) → b.length ≤ cap → b.length ≤ 262144 → D w → Calls Tryz.prog 12 #[.slice A b.length cap] w (NewB w (wrapV sum ls b))
  header : ∀ (w : World) (A : Option Addr) (cap : Nat) (b : By), Rd w w.heap.size A b → (A = none → cap = 0) → b.length ≤ cap → b.length ≤ 4000000 → D w → Calls Tryz.prog 15 #[.slice A b.length cap] w fun e w' => e = .returned (.tuple #[.int .i64 ((headV sum b).1 : Nat), .int .i64 (headV sum b).2]) ∧ Fr (fun _ => False) w w'
  dress : ∀ (w : World) (A : Option Addr) (cap : Nat) (b : By) (name note : ByteArray) (A2 : Option Addr) (cap2 : Nat) (extra : By) (hc : Bool), Rd w w.heap.size A b → (A = none → cap = 0) → b.length ≤ cap → b.length ≤ 262144 → name.size ≤ 1048576 → note.size ≤ 1048576 → Rd w w.heap.size A2 extra → (A2 = none → cap2 = 0) → extra.length ≤ cap2 → extra.length ≤ 1048576 → D w → Calls Tryz.prog 9 #[.slice A b.length cap, .string name, .string note, .slice A2 extra.length cap2, .bool hc] w fun e w' => ∃ A' cap', e = .returned (.tuple #[.slice A' (dressV sum ls b name.data.toList note.data.toList extra hc).1.length cap', .int .i64 (dressV sum ls b name.data.toList note.data.toList extra hc).2]) ∧ Rd w' w'.heap.size A' (dressV sum ls b name.data.toList note.data.toList extra hc).1 ∧ (A' = none → cap' = 0) ∧ (dressV sum ls b name.data.toList note.data.toList extra hc).1.length ≤ cap' ∧ Fr (fun _ => False) w w'
  crc : ∀ (w : World) (A : Option Addr) (cap : Nat) (b : By), Rd w w.heap.size A b → b.length ≤ 140737488351232 → D w → Calls Tryz.prog 17 #[.slice A b.length cap] w fun e w' => e = .returned (.int .u32 (sum b : Nat)) ∧ Fr (fun _ => False) w w'
end Go.Proofs.YtcdhakfmljjaoaaGreatDoor.gz
