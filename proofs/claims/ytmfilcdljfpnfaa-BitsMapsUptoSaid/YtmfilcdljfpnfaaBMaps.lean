/-
  BitsMaps: bits are told, set, looked for, counted and gathered into runs as the document says, and the bytes handed in stay. The condition is the row's own: what is read is of bulk at most 1048576 (without it the runs of 2^47 bytes would be more than a slice bears).
-/
import Derived.Test.YtmfilcdljfpnfaaRows
import Derived.Test.YtmfilcdljfpnfaaBitsL
import Derived.Test.YtmfilcdljfpnfaaUpto
import Derived.ProofKit
import Derived.OpenShut
import Derived.SizedLaws
import Derived.Deep.CondSized
namespace Go.Proofs.Ytmfilcdljfpnfaa.bitsMaps
open Go.ChangeShapes Go.WideShapes Go.ChangeAt Go.RowKit

set_option maxRecDepth 100000 in
set_option maxHeartbeats 4000000 in
theorem walk (A : Option Addr) (cap : Nat) (l : List UInt8) (i : Int) (on : Bool) (f m : Int) (W : World) (hr : Rd W W.heap.size A l) (hA : A = none → cap = 0) (hl : l.length ≤ 1048576) (hi2 : i ≤ 9223372036854775807) (hf2 : f ≤ 9223372036854775807) :
    Calls Try.prog 4 #[.slice A l.length cap, .int .i64 i, .bool on, .int .i64 f, .int .i64 m] W fun e w' => e = .returned (.bool true) ∧ Fr (fun _ => False) W w' := by
  obtain ⟨n, hn⟩ : ∃ n, n = l.length := ⟨_, rfl⟩
  rw [← hn] at hl ⊢
  have HR := Lib.hid hr
  have HA := Lib.hid hA
  have HN := Lib.hid hn.symm
  have HL := Lib.hid (show n ≤ 140737488351232 by omega)
  have HL2 := Lib.hid (show n ≤ 549755813888 by omega)
  have HI2 := Lib.hid hi2
  have HF2 := Lib.hid hf2
  have hsp := spanN_le n m
  have HB0 := Lib.hid (bytes_any W A cap l hr hA (by omega))
  rw [← hn] at HB0
  clear hr hA hn hi2 hf2
  go_enter Try.func4, Try.ntmps4
  go_wp2_with fail
  refine HB0.out.mono ?_
  rintro e w1 ⟨A1, cap1, rfl, ho, hF⟩
  rw [HN.out]
  have G1 := Lib.hid hF
  have HO := Lib.hid ho.rd
  have HA1 := Lib.hid (own_none ho)
  have HR1 := Lib.hid (HR.out.still hF (Nat.le_refl _))
  clear ho hF
  go_wp2_with fail
  refine (has_any w1 A1 n cap1 _ i l HO.out HN.out HL.out HI2.out).mono ?_
  rintro e w' ⟨rfl, rfl⟩
  go_wp2_with fail
  refine (rhas_any w1 A n cap _ i l HR1.out HN.out HL.out HI2.out).mono ?_
  rintro e w' ⟨rfl, rfl⟩
  go_wp2_with fail
  refine (set_any w1 A1 n cap1 _ i on l HO.out HN.out (Nat.le_refl _) HA1.out HL.out HI2.out).mono ?_
  rintro e w2 ⟨A2, cap2, rfl, ho2, hF2⟩
  have G2 := Lib.hid (G1.out.trans hF2 (fun _ _ e => e))
  have HO2 := Lib.hid ho2.rd
  have HO12 := Lib.hid (HO.out.still hF2 (Nat.le_refl _))
  have HR2 := Lib.hid (HR1.out.still hF2 G1.out.size)
  have HS1 := Lib.hid hF2.size
  clear ho2 hF2
  go_wp2_with fail
  refine (rset_any w2 A n cap _ i on l HR2.out HN.out G2.out.size HL.out HI2.out).mono ?_
  rintro e w3 ⟨A3, cap3, rfl, ho3, hF3⟩
  have G3 := Lib.hid (G2.out.trans hF3 (fun _ _ e => e))
  have HO3 := Lib.hid ho3.rd
  have HO23 := Lib.hid (HO2.out.still hF3 (Nat.le_refl _))
  have HO13 := Lib.hid (HO12.out.still hF3 HS1.out)
  have HR3 := Lib.hid (HR2.out.still hF3 G2.out.size)
  have HS2 := Lib.hid (Nat.le_trans HS1.out hF3.size)
  have HLL := Lib.hid (Nat.le_trans (setL2_len l i on) (show l.length ≤ 140737488351232 by rw [HN.out]; exact HL.out))
  clear ho3 hF3
  go_wp2_with fail
  refine (same_any w3 A2 A3 _ _ cap2 cap3 _ _ HO23.out HO3.out HLL.out).mono ?_
  rintro e w4 ⟨rfl, hC⟩
  rw [decide_eq_true rfl]
  have G4 := Lib.hid (G3.out.trans hC.fr (fun _ _ e => e))
  have HO4 := Lib.hid (HO13.out.calm hC)
  have HR4 := Lib.hid (HR3.out.calm hC)
  have HS4 := Lib.hid (show w1.heap.size ≤ w4.heap.size by rw [hC.size]; exact HS2.out)
  clear hC
  go_wp2_with fail
  refine (first_any w4 A1 n cap1 _ f m l HO4.out HN.out HL.out HF2.out).mono ?_
  rintro e w' ⟨rfl, rfl⟩
  go_wp2_with fail
  refine (rfirst_any w4 A n cap _ f m l HR4.out HN.out HL.out).mono ?_
  rintro e w' ⟨rfl, rfl⟩
  go_wp2_with fail
  refine (count_any w4 A1 n cap1 _ m l HO4.out HN.out HS4.out HL.out).mono ?_
  rintro e w5 ⟨rfl, hF5⟩
  have G5 := Lib.hid (G4.out.trans hF5 (fun _ _ e => e))
  have HO5 := Lib.hid (HO4.out.still hF5 HS4.out)
  have HR5 := Lib.hid (HR4.out.still hF5 G4.out.size)
  have HS5 := Lib.hid (Nat.le_trans HS4.out hF5.size)
  clear hF5
  go_wp2_with fail
  refine (rcount_any w5 A n cap _ m l HR5.out HN.out HL.out).mono ?_
  rintro e w' ⟨rfl, rfl⟩
  go_wp2_with fail
  refine (runs_any w5 A1 n cap1 _ m l HO5.out HN.out HS5.out HL2.out).mono ?_
  rintro e w6 ⟨A6, cap6, rfl, ho6, hF6⟩
  have G6 := Lib.hid (G5.out.trans hF6 (fun _ _ e => e))
  have HO6 := Lib.hid (HO5.out.still hF6 HS5.out)
  have HR6 := Lib.hid (HR5.out.still hF6 G5.out.size)
  have HS6 := Lib.hid (Nat.le_trans HS5.out hF6.size)
  have HI6 := Lib.hid (ho6.rd (runsOf_in l _ (by omega)))
  clear ho6 hF6
  go_wp2_with fail
  refine (rruns_any w6 A n cap _ m l HR6.out HN.out G6.out.size HL2.out).mono ?_
  rintro e w7 ⟨A7, cap7, rfl, ho7, hF7⟩
  have G7 := Lib.hid (G6.out.trans hF7 (fun _ _ e => e))
  have HO7 := Lib.hid (HO6.out.still hF7 HS6.out)
  have HR7 := Lib.hid (HR6.out.still hF7 G6.out.size)
  have HI67 := Lib.hid (HI6.out.still hF7 (Nat.le_refl _))
  have HI7 := Lib.hid (ho7.rd (runsOf_in l _ (by omega)))
  have HRL := Lib.hid (show (runsOf l (spanN n m)).length ≤ 140737488351232 by have := runsOf_length l (spanN n m); omega)
  clear ho7 hF7
  go_wp2_with fail
  refine (sameI_any w7 A6 A7 _ _ cap6 cap7 _ _ HI67.out HI7.out HRL.out).mono ?_
  rintro e w8 ⟨rfl, hC⟩
  rw [decide_eq_true rfl]
  have G8 := Lib.hid (G7.out.trans hC.fr (fun _ _ e => e))
  have HO8 := Lib.hid (HO7.out.calm hC)
  have HR8 := Lib.hid (HR7.out.calm hC)
  clear hC
  go_wp2_with fail
  have HSS := Lib.hid (same_any w8 A1 A _ _ cap1 cap _ _ HO8.out HR8.out (show l.length ≤ 140737488351232 by rw [HN.out]; exact HL.out))
  rw [HN.out] at HSS
  refine HSS.out.mono ?_
  rintro e w9 ⟨rfl, hC⟩
  rw [decide_eq_true rfl]
  have G9 := Lib.hid (G8.out.trans hC.fr (fun _ _ e => e))
  clear hC
  go_wp2_with fail
  refine (works_any w9).mono ?_
  rintro e w10 ⟨rfl, hF10⟩
  have G10 := Lib.hid (G9.out.trans hF10 (fun _ _ e => e))
  clear hF10
  go_wp2_with fail
  go_ret
  exact ⟨rfl, G10.out⟩

/-! ### the row -/
theorem own : ownKnob Try.prog.godebug = none := by kernel_rfl
set_option maxRecDepth 100000 in
theorem lifted (os : Os) (started : os.Started) (H : Type) (enc : TypeId × Value → H) (F : Stop.Interp) :
    ReturnsInHanded {} Try.checked os 4 .any ((Rows.OpenSpec.upto Rows.bitsMapsSpec).pre6 enc Try.prog Try.f4 Rows.bitsMapsUptoRow.domain false) (((Rows.OpenSpec.upto Rows.bitsMapsSpec).at F).post enc Try.prog Try.f4 false true false false) := by
  refine returnsInHanded_of_cond_sized (C := Try.checked) (s := (Rows.OpenSpec.upto Rows.bitsMapsSpec)) (k := Rows.uptoSmall) rfl own started (by kernel_rfl) Try.func4
    (OpenSpec.witness (enc := enc) (C := Try.checked) (s := (Rows.OpenSpec.upto Rows.bitsMapsSpec)) (k := Rows.uptoSmall) rfl false ⟨#[], #[.slice none 0 0, .int .i64 0, .bool false, .int .i64 0, .int .i64 0], []⟩ 8 (by kernel_rfl) (by kernel_rfl) (by kernel_rfl) (by kernel_rfl)
      (x := ([.nil, .lit (.int .i64 0), .lit (.bool false), .lit (.int .i64 0), .lit (.int .i64 0)], [], [])) (by kernel_rfl) rfl (by kernel_rfl)) ?_
  intro W base args ds gs before hval0 hW _ hk hsz0 _
  have hval : ∀ (j : Nat) t v, Try.f4.params[j]? = some t → args[j]? = some v → Value.okWide Try.prog W .any base t v := hval0
  have hsz : (DataW.weightsEach Try.prog (Try.f4.params.toList ++ Rows.bitsMapsSpec.plain.varTypes Try.prog) (ds ++ gs)).all (· ≤ reachBytes) = true := hsz0
  have hW' := hW
  obtain ⟨p, q, hA0, hV, rfl, hfz, hnd⟩ := hW
  have hA : DataW.TrodAll enc Try.prog W 0 (fun _ => true) true Try.f4.params.toList args.toList ds p := hA0
  rw [Try.params4] at hA hval hsz
  obtain ⟨v0, vs0, d0, ds0, p0, q0, hargs, rfl, rfl, h0, r0⟩ := trodAll_cons hA
  obtain ⟨v1, vs1, d1, ds1, p1, q1, rfl, rfl, rfl, h1, r1⟩ := trodAll_cons r0
  obtain ⟨v2, vs2, d2, ds2, p2, q2, rfl, rfl, rfl, h2, r2⟩ := trodAll_cons r1
  obtain ⟨v3, vs3, d3, ds3, p3, q3, rfl, rfl, rfl, h3, r3⟩ := trodAll_cons r2
  obtain ⟨v4, vs4, d4, ds4, p4, q4, rfl, rfl, rfl, h4, r4⟩ := trodAll_cons r3
  obtain ⟨rfl, rfl, rfl⟩ := trodAll_nil r4
  obtain rfl : args = #[v0, v1, v2, v3, v4] := by cases args; simp_all
  obtain ⟨rfl, rfl⟩ := trodVars_none hV
  obtain ⟨A0, cap0, l0, rfl, hr0, hA0, hc0, hl0⟩ := bytes_openN (N := 1048576) (fun _ => rfl) (fun el sp (e : d0 = .slice el sp) => bulk_slice hk (by rw [e]; simp)) (hval 0 22 v0 rfl rfl) h0
  obtain ⟨a1, rfl, rfl, rfl, w1⟩ := open_int Try.underlying3 (hval 1 3 v1 rfl rfl) h1
  obtain ⟨a2, rfl, rfl, rfl⟩ := open_bool Try.underlying4 (hval 2 4 v2 rfl rfl) h2
  obtain ⟨a3, rfl, rfl, rfl, w3⟩ := open_int Try.underlying3 (hval 3 3 v3 rfl rfl) h3
  obtain ⟨a4, rfl, rfl, rfl, w4⟩ := open_int Try.underlying3 (hval 4 3 v4 rfl rfl) h4
  clear hA0 hval0 hsz0
  simp only [List.append_nil] at hW'
  try simp only [List.nil_append] at hW'
  have hlt0 : ∀ x ∈ p0, x.block < W.heap.size := fun x hx => by simpa using hW'.lt x (by simp [hx])
  refine (walk A0 cap0 l0 a1 a2 a3 a4 W hr0 hA0 (Nat.le_trans hc0 hl0) (i64_in w1).2 (i64_in w3).2).mono fun e W' ⟨he, hg⟩ => ?_
  subst he
  have hB : Below W.heap.size W W' := hg.below (Nat.le_refl _) (fun _ _ e => e.elim)
  have t0 := Below.trod laidOut (by kernel_rfl) (of_decide_eq_true (by kernel_rfl)) h0 hB hlt0
  exact ⟨_, rfl, _, _, _, [], _, [], hW', trodAll_cons_mk (shut_bool Try.underlying4 _) trodAll_mk0, (trodAll_cons_mk t0 (trodAll_cons_mk (shut_int Try.underlying3 w1) (trodAll_cons_mk (shut_bool Try.underlying4 a2) (trodAll_cons_mk (shut_int Try.underlying3 w3) (trodAll_cons_mk (shut_int Try.underlying3 w4) trodAll_mk0))))), rfl, hB.frame _, fun h => by cases h⟩

theorem over : Rows.bitsMapsUptoRow.holds Try.pinned (Rows.OpenSpec.upto Rows.bitsMapsSpec) :=
  OpenClaim.holds_of_cond 4 Try.f4 rfl rfl rfl rfl rfl rfl rfl ⟨rfl, rfl, rfl, rfl, rfl⟩ rfl rfl rfl rfl rfl (by kernel_rfl) Try.func4 (by kernel_rfl)
    (of_decide_eq_true (by kernel_rfl)) (by unfold Func.isWrapper; first | (rw [if_pos (by decide +kernel)]; kernel_rfl) | (rw [if_neg (by decide +kernel)]; exact ⟨rfl, rfl⟩))
    (fun os started H enc _ F => lifted os started H enc F)

theorem proved : Rows.BitsMapsUptoSaid := over
#print axioms proved

end Go.Proofs.Ytmfilcdljfpnfaa.bitsMaps
