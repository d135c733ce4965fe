/-
  BitsNumbers: numbers are got from bytes, and put into them, as the document says, and the bytes handed in stay, whatever the input. No condition.
-/
import Derived.Test.YtmfilcdljfpnfaaRows
import Derived.Test.YtmfilcdljfpnfaaBitsL
import Derived.ProofKit
import Derived.OpenShut
import Derived.SizedLaws
namespace Go.Proofs.Ytmfilcdljfpnfaa.bitsNumbers
open Go.ChangeShapes Go.WideShapes Go.ChangeAt Go.RowKit

set_option maxRecDepth 100000 in
set_option maxHeartbeats 2000000 in
theorem walk (A : Option Addr) (cap : Nat) (l : List UInt8) (a k N : Int) (W : World) (hr : Rd W W.heap.size A l) (hA : A = none → cap = 0) (hl : l.length ≤ 140737488351232) (hN2 : N ≤ 9223372036854775807) :
    Calls Try.prog 3 #[.slice A l.length cap, .int .i64 a, .int .i64 k, .int .i64 N] W fun e w' => e = .returned (.bool true) ∧ Fr (fun _ => False) W w' := by
  have HR := Lib.hid hr
  have HA := Lib.hid hA
  have HL := Lib.hid hl
  have HN2 := Lib.hid hN2
  clear hr hA hl hN2
  go_enter Try.func3, Try.ntmps3
  go_wp2_with fail
  refine (bytes_any W A cap l HR.out HA.out HL.out).mono ?_
  rintro e w1 ⟨A1, cap1, rfl, ho, hF⟩
  have HF := Lib.hid hF
  have HO := Lib.hid ho.rd
  have HA1 := Lib.hid (own_none ho)
  have HR1 := Lib.hid (HR.out.still hF (Nat.le_refl _))
  clear ho hF
  go_wp2_with fail
  refine (get_any w1 A1 _ cap1 _ a k l HO.out rfl HL.out).mono ?_
  rintro e w' ⟨rfl, rfl⟩
  go_wp2_with fail
  refine (rget_any w1 A _ cap _ a k l HR1.out rfl HL.out).mono ?_
  rintro e w' ⟨rfl, rfl⟩
  go_wp2_with fail
  refine (put_any w1 A1 _ cap1 _ a k N l HO.out rfl (Nat.le_refl _) HA1.out HL.out).mono ?_
  rintro e w2 ⟨A2, cap2, rfl, ho2, hF2⟩
  have HF2 := Lib.hid (HF.out.trans hF2 (fun _ _ e => e))
  have HO2 := Lib.hid ho2.rd
  have HO12 := Lib.hid (HO.out.still hF2 (Nat.le_refl _))
  have HR2 := Lib.hid (HR1.out.still hF2 HF.out.size)
  have HS1 := Lib.hid hF2.size
  clear ho2 hF2
  go_wp2_with fail
  refine (rput_any w2 A _ cap _ a k N l HR2.out rfl HF2.out.size HA.out HL.out HN2.out).mono ?_
  rintro e w3 ⟨A3, cap3, rfl, ho3, hF3⟩
  have HF3 := Lib.hid (HF2.out.trans hF3 (fun _ _ e => e))
  have HO3 := Lib.hid ho3.rd
  have HO23 := Lib.hid (HO2.out.still hF3 (Nat.le_refl _))
  have HO13 := Lib.hid (HO12.out.still hF3 HS1.out)
  have HR3 := Lib.hid (HR2.out.still hF3 HF2.out.size)
  have HS2 := Lib.hid (Nat.le_trans HS1.out hF3.size)
  have HLL := Lib.hid (Nat.le_trans (putL2_len l a k N) HL.out)
  clear ho3 hF3
  go_wp2_with fail
  refine (same_any w3 A2 A3 _ _ cap2 cap3 _ _ HO23.out HO3.out HLL.out).mono ?_
  rintro e w4 ⟨rfl, hC⟩
  rw [decide_eq_true rfl]
  have HF4 := Lib.hid (HF3.out.trans hC.fr (fun _ _ e => e))
  have HO4 := Lib.hid (HO13.out.calm hC)
  have HR4 := Lib.hid (HR3.out.calm hC)
  clear hC
  go_wp2_with fail
  refine (same_any w4 A1 A _ _ cap1 cap _ _ HO4.out HR4.out HL.out).mono ?_
  rintro e w5 ⟨rfl, hC⟩
  rw [decide_eq_true rfl]
  have HF5 := Lib.hid (HF4.out.trans hC.fr (fun _ _ e => e))
  clear hC
  go_wp2_with fail
  refine (works_any w5).mono ?_
  rintro e w6 ⟨rfl, hF6⟩
  have HF6 := Lib.hid (HF5.out.trans hF6 (fun _ _ e => e))
  clear hF6
  go_wp2_with fail
  go_ret
  exact ⟨rfl, HF6.out⟩

/-! ### the row -/
theorem own : ownKnob Try.prog.godebug = none := by kernel_rfl
set_option maxRecDepth 100000 in
theorem lifted (os : Os) (started : os.Started) (H : Type) (enc : TypeId × Value → H) :
    ReturnsInHanded {} Try.checked os 3 .any (Rows.bitsNumbersSpec.pre6 enc Try.prog Try.f3 Rows.bitsNumbersRow.domain false) (Rows.bitsNumbersSpec.post enc Try.prog Try.f3 false true false false) := by
  refine returnsInHanded_of_change_sized (C := Try.checked) own started (by kernel_rfl) Try.func3
    (ChangeSpec.witness6 (enc := enc) (C := Try.checked) false ⟨#[], #[.slice none 0 0, .int .i64 0, .int .i64 0, .int .i64 0], []⟩ 8 (by kernel_rfl) (by kernel_rfl) (by kernel_rfl) (by kernel_rfl)) ?_
  intro W base args ds gs before hval0 hW _ hsz0 _
  have hval : ∀ (j : Nat) t v, Try.f3.params[j]? = some t → args[j]? = some v → Value.okWide Try.prog W .any base t v := hval0
  have hsz : (DataW.weightsEach Try.prog (Try.f3.params.toList ++ Rows.bitsNumbersSpec.plain.varTypes Try.prog) (ds ++ gs)).all (· ≤ reachBytes) = true := hsz0
  have hW' := hW
  obtain ⟨p, q, hA0, hV, rfl, hfz, hnd⟩ := hW
  have hA : DataW.TrodAll enc Try.prog W 0 (fun _ => true) true Try.f3.params.toList args.toList ds p := hA0
  rw [Try.params3] at hA hval hsz
  obtain ⟨v0, vs0, d0, ds0, p0, q0, hargs, rfl, rfl, h0, r0⟩ := trodAll_cons hA
  obtain ⟨v1, vs1, d1, ds1, p1, q1, rfl, rfl, rfl, h1, r1⟩ := trodAll_cons r0
  obtain ⟨v2, vs2, d2, ds2, p2, q2, rfl, rfl, rfl, h2, r2⟩ := trodAll_cons r1
  obtain ⟨v3, vs3, d3, ds3, p3, q3, rfl, rfl, rfl, h3, r3⟩ := trodAll_cons r2
  obtain ⟨rfl, rfl, rfl⟩ := trodAll_nil r3
  obtain rfl : args = #[v0, v1, v2, v3] := by cases args; simp_all
  obtain ⟨rfl, rfl⟩ := trodVars_none hV
  obtain ⟨A0, cap0, l0, rfl, hr0, hA0, hc0, hl0⟩ := bytes_open (fun _ => rfl) (fun el sp (e : d0 = .slice el sp) => sized_slice hsz (j := 0) (t := 22) (e := 5) rfl (by rw [e]; rfl) Try.underlying22) (hval 0 22 v0 rfl rfl) h0
  obtain ⟨a1, rfl, rfl, rfl, w1⟩ := open_int Try.underlying3 (hval 1 3 v1 rfl rfl) h1
  obtain ⟨a2, rfl, rfl, rfl, w2⟩ := open_int Try.underlying3 (hval 2 3 v2 rfl rfl) h2
  obtain ⟨a3, rfl, rfl, rfl, w3⟩ := open_int Try.underlying3 (hval 3 3 v3 rfl rfl) h3
  clear hA0 hval0 hsz0
  simp only [List.append_nil] at hW'
  try simp only [List.nil_append] at hW'
  have hlt0 : ∀ x ∈ p0, x.block < W.heap.size := fun x hx => by simpa using hW'.lt x (by simp [hx])
  refine (walk A0 cap0 l0 a1 a2 a3 W hr0 hA0 hl0 (i64_in w3).2).mono fun e W' ⟨he, hg⟩ => ?_
  subst he
  have hB : Below W.heap.size W W' := hg.below (Nat.le_refl _) (fun _ _ e => e.elim)
  have t0 := Below.trod laidOut (by kernel_rfl) (of_decide_eq_true (by kernel_rfl)) h0 hB hlt0
  exact ⟨_, rfl, _, _, _, [], _, [], hW', trodAll_cons_mk (shut_bool Try.underlying4 _) trodAll_mk0, (trodAll_cons_mk t0 (trodAll_cons_mk (shut_int Try.underlying3 w1) (trodAll_cons_mk (shut_int Try.underlying3 w2) (trodAll_cons_mk (shut_int Try.underlying3 w3) trodAll_mk0)))), rfl, hB.frame _, fun h => by cases h⟩

theorem over : Rows.bitsNumbersRow.holds Try.pinned (OpenSpec.ofChange Rows.bitsNumbersSpec) :=
  OpenClaim.holds_of_wide 3 Try.f3 rfl rfl rfl rfl rfl rfl rfl ⟨rfl, rfl, rfl, rfl, rfl⟩ rfl rfl rfl rfl rfl (by kernel_rfl) Try.func3 (by kernel_rfl)
    (of_decide_eq_true (by kernel_rfl)) (by unfold Func.isWrapper; first | (rw [if_pos (by decide +kernel)]; kernel_rfl) | (rw [if_neg (by decide +kernel)]; exact ⟨rfl, rfl⟩))
    (fun os started H enc _ => lifted os started H enc)

theorem proved : Rows.BitsNumbersSaid := over
#print axioms proved

end Go.Proofs.Ytmfilcdljfpnfaa.bitsNumbers
