/-
  Walk of PathAlong.
-/
import Derived.Test.YtldlonkaedjdpaaPtW
namespace Go.Proofs.Ytldlonkaedjdpaa.pt
set_option maxRecDepth 100000
open Go.RowKit Go.Maps
set_option maxRecDepth 100000

set_option maxHeartbeats 8000000 in
theorem along_walk {cl : Tx → Tx × Int} (HP : PathP cl) (w : World) (p q r : ByteArray) (hp : p.size ≤ 140737488355328) (hq : q.size ≤ 140737488355328) (hr : r.size ≤ 140737488355328) : Calls Try.prog 9 #[.string p, .string q, .string r] w (TrueW w) := by
  have HW := Lib.hid (fun wx => works_any HP wx)
  have U1 := Lib.hid (fun wx => HP.under wx p q hp hq)
  have U2 := Lib.hid (fun wx => HP.under wx q r hq hr)
  have U3 := Lib.hid (fun wx => HP.under wx p r hp hr)
  have U4 := Lib.hid (fun wx => HP.under wx r q hr hq)
  have U5 := Lib.hid (fun wx => HP.under wx p p hp hp)
  have U6 := Lib.hid (fun wx => HP.under wx p ⟨#[]⟩ hp (Nat.zero_le _))
  rw [under_self] at U5
  rw [show (⟨#[]⟩ : ByteArray).toList = [] from tx_toL [], under_nil] at U6
  have K := Lib.hid (Fr.refl (fun _ => False) w)
  have T1 := Lib.hid (fun h k => under_trans (p := p.toList) (q := q.toList) (r := r.toList) h k)
  have T2 := Lib.hid (fun h k => under_two (p := p.toList) (q := q.toList) (r := r.toList) h k)
  obtain ⟨u1, h1⟩ : ∃ u, u = underT p.toList q.toList := ⟨_, rfl⟩
  obtain ⟨u2, h2⟩ : ∃ u, u = underT q.toList r.toList := ⟨_, rfl⟩
  obtain ⟨u3, h3⟩ : ∃ u, u = underT p.toList r.toList := ⟨_, rfl⟩
  obtain ⟨u4, h4⟩ : ∃ u, u = underT r.toList q.toList := ⟨_, rfl⟩
  rw [← h1] at U1 T1 T2
  rw [← h2] at U2 T1 T2
  rw [← h3] at U3 T1 T2
  rw [← h4] at U4 T2
  clear h1 h2 h3 h4 HP hp hq hr
  have HT : Hid (u1 = true → u2 = true → u3 = true) := T1
  have HT2 : Hid (u1 = true → u3 = true → u2 = true ∨ u4 = true) := T2
  clear T1 T2
  cases u1 <;> cases u2 <;> cases u3 <;> cases u4
  all_goals first
    | (exfalso; have h := HT.out rfl rfl; cases h; done)
    | (exfalso; rcases HT2.out rfl rfl with h | h <;> cases h; done)
    | skip
  all_goals
    clear HT HT2
    go_enter Try.func9, Try.ntmps9
    go_wp2_with fail
    refine (HW.out _).mono ?_
    rintro e wn ⟨rfl, hF⟩
    replace K := Lib.hid (K.out.trans hF (fun _ _ e => e))
    clear hF
    go_wp2_with (go_at_call 23; first | (with_reducible refine (U1.out _).mono ?_; rintro e wn ⟨rfl, hF⟩; replace K := Lib.hid (K.out.trans hF (fun _ _ e => e)); clear hF) | (with_reducible refine (U2.out _).mono ?_; rintro e wn ⟨rfl, hF⟩; replace K := Lib.hid (K.out.trans hF (fun _ _ e => e)); clear hF) | (with_reducible refine (U3.out _).mono ?_; rintro e wn ⟨rfl, hF⟩; replace K := Lib.hid (K.out.trans hF (fun _ _ e => e)); clear hF) | (with_reducible refine (U4.out _).mono ?_; rintro e wn ⟨rfl, hF⟩; replace K := Lib.hid (K.out.trans hF (fun _ _ e => e)); clear hF) | (with_reducible refine (U5.out _).mono ?_; rintro e wn ⟨rfl, hF⟩; replace K := Lib.hid (K.out.trans hF (fun _ _ e => e)); clear hF) | (with_reducible refine (U6.out _).mono ?_; rintro e wn ⟨rfl, hF⟩; replace K := Lib.hid (K.out.trans hF (fun _ _ e => e)); clear hF))
    go_ret
    exact ⟨rfl, K.out⟩
end Go.Proofs.Ytldlonkaedjdpaa.pt
