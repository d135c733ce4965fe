/-
  The program's paths have what is asked.
-/
import Derived.Test.YtommhikkbbmgmaaPuG
namespace Go.Proofs.Ytommhikkbbmgmaa.pt
set_option maxRecDepth 100000
open Go.RowKit Go.Maps
set_option maxRecDepth 100000

/-- What the program's Clean answers. -/
def clP (l : Tx) : Tx × Int := if l = [] then ([], 0) else cleanL l
set_option maxHeartbeats 2000000 in
theorem pclean0 (w : World) : Calls Try.prog 23 #[.string ⟨#[]⟩] w (AnsC w ([], 0)) := by
  have HF := Lib.hid (Fr.refl (fun _ => False) w)
  go_enter Try.func23, Try.ntmps23
  go_wp2_with fail
  go_ret2
  exact ⟨rfl, HF.out⟩
theorem path_all : PathP clP where
  cl_eq := fun l h => if_neg h
  cl_nil := Or.inl rfl
  check := fun w s hs => pcheck w s hs
  clean := fun w s hs => by
    unfold clP
    by_cases h : s.toList = []
    · obtain rfl : s = ⟨#[]⟩ := empty_tx h
      rw [if_pos h]
      exact pclean0 w
    · rw [if_neg h]
      exact pclean w s hs h
  target := fun w s t hs ht => ptarget w s t hs ht
  parent := fun w s hs => (pparent w s hs).mono fun _ _ ⟨a, b⟩ => ⟨a, b ▸ Fr.refl _ _⟩
  base := fun w s hs => (pbase w s hs).mono fun _ _ ⟨a, b⟩ => ⟨a, b ▸ Fr.refl _ _⟩
  join := fun w s t hs => (pjoin w s t hs).mono fun _ _ ⟨a, b⟩ => ⟨a, b ▸ Fr.refl _ _⟩
  under := fun w s t _ ht => (punder w s t ht).mono fun _ _ ⟨a, b⟩ => ⟨a, b ▸ Fr.refl _ _⟩
  all := fun w s hs => pall w s hs
end Go.Proofs.Ytommhikkbbmgmaa.pt
