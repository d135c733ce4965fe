/-
  The program's codes, all of their contracts.
-/
import Derived.Test.YtcdhakfmljjaoaaGreatDoorJC
import Derived.Test.YtcdhakfmljjaoaaGreatDoorCpG
import Derived.Test.YtcdhakfmljjaoaaGreatDoorCpH
import Derived.Test.YtcdhakfmljjaoaaGreatDoorCpJ
import Derived.Test.YtcdhakfmljjaoaaGreatDoorJH
namespace Go.Proofs.YtcdhakfmljjaoaaGreatDoor.cd
set_option maxRecDepth 100000
open Go.RowKit Go.Maps Go.Proofs.YtcdhakfmljjaoaaGreatDoor.fl

theorem code_all : CodeP PR PV PC where
  c_keep := fun ⟨g, gw, gs, sy, e, h⟩ hF hS => ⟨g, gw, gs, sy, e, h.keep hF hS⟩
  c_in := fun ⟨_, _, _, _, _, h⟩ => ⟨h.low, h.ok⟩
  new_ok := fun w A cap l hr _ _ hb hok => pnew_ok w A cap l hr hb hok
  new_no := fun w A cap l hr _ _ hb hok => pnew_no w A cap l hr hb hok
  read := fun w c l S r b p T ⟨g, gw, gs, sy, e, h⟩ hr hST => by subst e; exact pread flow_all w g gw gs l sy S r b p T h hr hST
  word := fun w c l S s ⟨g, gw, gs, sy, e, h⟩ hs => by subst e; exact pword h s hs
  write := fun w c l S a L T s ⟨g, gw, gs, sy, e, h⟩ hv _ hL hs => by subst e; exact pwrite_code flow_all h a L T s hv hL hs
  fixed := pfixed
end Go.Proofs.YtcdhakfmljjaoaaGreatDoor.cd
