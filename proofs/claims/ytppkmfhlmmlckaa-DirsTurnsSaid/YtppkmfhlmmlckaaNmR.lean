/-
  DirsStay over what is asked of the program's own functions.
-/
import Derived.Test.YtppkmfhlmmlckaaNmQ
namespace Go.Proofs.Ytppkmfhlmmlckaa.nm
set_option maxRecDepth 100000
open Go.RowKit Go.Maps
set_option maxRecDepth 100000

set_option maxHeartbeats 4000000 in
theorem stay_walk (HD : Dirs) (w : World) (A : Option Addr) (cap : Nat) (l : List Nm) (s : ByteArray) (num : Int) (hl : In w A cap l) (hs : s.size ≤ maxLen) (hn : -9223372036854775808 ≤ num ∧ num ≤ 9223372036854775807) :
    Calls Try.prog 7 #[.slice A l.length cap, .string s, .int .i64 num] w fun e w' => e = .returned (.bool true) ∧ Fr (fun _ => False) w w' := by
  obtain ⟨n, hn'⟩ : ∃ n, n = l.length := ⟨_, rfl⟩
  have HL := Lib.hid (⟨hl, hn', hs, hn⟩ : _ ∧ _ ∧ _ ∧ _)
  have hnl : n ≤ 5864062014805 := by rw [hn']; exact hl.len
  have HDD := Lib.hid HD
  rw [← hn']
  clear hl hn' hs hn HD
  go_enter Try.func7, Try.ntmps7
  go_wp2_with fail
  refine (HDD.out.works w).mono ?_
  rintro e w1 ⟨rfl, hF1⟩
  have HI1 := Lib.hid (HL.out.1.fr hF1)
  have HF1 := Lib.hid hF1
  clear hF1
  have HPR := Lib.hid (HDD.out.print w1 A cap l HI1.out)
  rw [← HL.out.2.1] at HPR
  go_wp2_with fail
  refine HPR.out.mono ?_
  rintro e w2 (⟨hrt, Ap, cp, rfl, _, _, _, hF2⟩ | ⟨_, Ap, cp, rfl, hF2⟩)
  · have HRT := Lib.hid hrt
    have HI2 := Lib.hid (HI1.out.fr hF2)
    have HF2 := Lib.hid (HF1.out.trans hF2 (fun _ _ e => e))
    clear hrt hF2 HPR
    have HAD := Lib.hid (HDD.out.add w2 A cap l s num HI2.out HL.out.2.2.1 HL.out.2.2.2)
    rw [← HL.out.2.1] at HAD
    go_wp2_with fail
    refine HAD.out.mono ?_
    rintro e w3 (⟨hz, Am, cm, rfl, ho, hna, hcm, hF3⟩ | ⟨hz, Am, cm, rfl, hF3⟩)
    case' inl =>
      have HRI := Lib.hid (right_ins HRT.out hz)
      have HIM := Lib.hid (⟨OwnN.rd ho (wf_ins HL.out.1.rd.wf HL.out.2.2.1 HL.out.2.2.2), hna, hcm, by rw [insL_length]; have := (addZ_ok hz).2.2.2; omega⟩ : In w3 Am cm (insL l s num))
      obtain ⟨q, hq⟩ : ∃ q, q = (insL l s num).length := ⟨_, rfl⟩
      have hqn : q = n + 1 := by rw [hq, insL_length, HL.out.2.1]
      have HP2 := Lib.hid (HDD.out.print w3 Am cm (insL l s num) HIM.out)
      have HF3 := Lib.hid (HF2.out.trans hF3 (fun _ _ e => e))
      rw [← hq, hqn] at HP2
      rw [← hq, hqn]
      clear hz ho hna hcm hF3 HAD hq hqn
      go_wp2_with fail
      refine HP2.out.mono ?_
      rintro e w4 (⟨_, Ap2, cp2, rfl, _, _, _, hF4⟩ | ⟨hno, _⟩)
      case' inr => exact absurd HRI.out hno
      have HF4 := Lib.hid (HF3.out.trans hF4 (fun _ _ e => e))
      clear hF4 HP2 HF3
      go_wp2_with fail
    case' inr =>
      obtain ⟨z, hzz⟩ : ∃ z, z = addZ l s num := ⟨_, rfl⟩
      rw [← hzz] at hz ⊢
      have hzb : (z == 0) = false := by simpa using hz
      obtain ⟨w4, hw4⟩ : ∃ w4, w4 = w3 := ⟨_, rfl⟩
      subst hw4
      have HF4 := Lib.hid (HF2.out.trans hF3 (fun _ _ e => e))
      clear hz hF3 HAD hzz
      go_wp2_with fail
    all_goals
      have HRM := Lib.hid (HDD.out.remove w4 A cap l s (HL.out.1.fr HF4.out) HL.out.2.2.1)
      rw [← HL.out.2.1] at HRM
      refine HRM.out.mono ?_
      rintro e w5 (⟨hz, Am, cm, rfl, ho, hna, hcm, hF5⟩ | ⟨hz, Am, cm, rfl, hF5⟩)
      · have hfl := (look_ok hz).2
        have hrl := rmL_length hfl
        have HRI := Lib.hid (right_rm (s := s) HRT.out)
        have HIM := Lib.hid (⟨OwnN.rd ho (fun x hx => by unfold rmL at hx; rcases List.mem_append.1 hx with hx | hx; exact HL.out.1.rd.wf x (List.mem_of_mem_take hx); exact HL.out.1.rd.wf x (List.mem_of_mem_drop hx)), hna, hcm, by have := HL.out.1.len; omega⟩ : In w5 Am cm (rmL l s))
        obtain ⟨q, hq⟩ : ∃ q, q = (rmL l s).length := ⟨_, rfl⟩
        have hqn : n = q + 1 := by rw [hq, HL.out.2.1, hrl]
        have HP2 := Lib.hid (HDD.out.print w5 Am cm (rmL l s) HIM.out)
        have HF5 := Lib.hid (HF4.out.trans hF5 (fun _ _ e => e))
        rw [← hq] at HP2
        rw [← hq]
        clear hz ho hna hcm hF5 HRM hq hfl hrl
        subst hqn
        go_wp2_with fail
        refine HP2.out.mono ?_
        rintro e w6 (⟨_, Ap2, cp2, rfl, _, _, _, hF6⟩ | ⟨hno, _⟩)
        · have HF6 := Lib.hid (HF5.out.trans hF6 (fun _ _ e => e))
          clear hF6 HP2
          go_wp2_with fail
          go_ret
          exact ⟨rfl, HF6.out⟩
        · exact absurd HRI.out hno
      · obtain ⟨z2, hzz2⟩ : ∃ z2, z2 = (lookR l s).2 := ⟨_, rfl⟩
        rw [← hzz2] at hz ⊢
        have hzb2 : (z2 == 0) = false := by simpa using hz
        have HF5 := Lib.hid (HF4.out.trans hF5 (fun _ _ e => e))
        clear hz hF5 HRM hzz2
        go_wp2_with fail
        go_ret
        exact ⟨rfl, HF5.out⟩
  · have HF2 := Lib.hid (HF1.out.trans hF2 (fun _ _ e => e))
    clear hF2 HPR
    go_wp2_with fail
    go_ret
    exact ⟨rfl, HF2.out⟩
end Go.Proofs.Ytppkmfhlmmlckaa.nm
