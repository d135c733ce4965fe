/-
  The program's archives: TarP.
-/
import Derived.Test.YtgimiggffpokpaaGreatDoorTeP
import Derived.Test.YtgimiggffpokpaaGreatDoorTeR
import Derived.Test.YtgimiggffpokpaaGreatDoorTaQ
namespace Go.Proofs.YtgimiggffpokpaaGreatDoor.ta
set_option maxRecDepth 100000
open Go.RowKit Go.Maps Go.Deep
open Go.Proofs.YtgimiggffpokpaaGreatDoor.he (DT)
set_option maxRecDepth 100000

theorem tar_all : TarP DT where
  d_keep := fun h hF => h.keep hF
  read := fun w A cap b hr _ hc hm hb hd => pread w A cap b hr hc hm hb hd
  write := fun w g hr hd => (pwriteX w hd g hr).mono fun e w' ⟨A, cap, he, ho, hF⟩ => by
    have hl : (exM ++ List.replicate 1024 (0 : UInt8)).length = 2048 := by rw [List.length_append, exM_len, List.length_replicate]
    rw [exW]
    exact ⟨A, cap, by rw [he]; show _ = Ending.returned (.tuple #[.slice A (exM ++ List.replicate 1024 (0 : UInt8)).length cap, .int .i64 0]); rw [hl], by show Own w' w.heap.size (.slice A (exM ++ List.replicate 1024 (0 : UInt8)).length cap) _; rw [hl]; exact ho, hF⟩
  record := fun w _ => precordX w
end Go.Proofs.YtgimiggffpokpaaGreatDoor.ta
