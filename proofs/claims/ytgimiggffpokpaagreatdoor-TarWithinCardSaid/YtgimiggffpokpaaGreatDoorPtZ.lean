/-
  The program's paths have what is asked.
-/
import Derived.Test.YtgimiggffpokpaaGreatDoorPuG
namespace Go.Proofs.YtgimiggffpokpaaGreatDoor.pt
set_option maxRecDepth 100000
open Go.RowKit Go.Maps
set_option maxRecDepth 100000

theorem path_all : PathP cleanL where
  cl_eq := fun _ _ => rfl
  cl_nil := Or.inr (by decide)
  check := fun w s hs => pcheck w s hs
  clean := fun w s hs => pclean w s hs
  target := fun w s t hs ht => ptarget w s t hs ht
  under := fun w s t _ ht => (punder w s t ht).mono fun _ _ ⟨a, b⟩ => ⟨a, b ▸ Fr.refl _ _⟩
end Go.Proofs.YtgimiggffpokpaaGreatDoor.pt
