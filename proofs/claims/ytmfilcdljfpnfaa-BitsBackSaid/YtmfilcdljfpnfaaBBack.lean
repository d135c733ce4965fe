/-
  BitsBack: what is put is got, and other bytes stay, whatever the input. No condition.
-/
import Derived.Test.YtmfilcdljfpnfaaRows
import Derived.Test.YtmfilcdljfpnfaaBitsL
import Derived.ProofKit
import Derived.OpenShut
import Derived.SizedLaws
namespace Go.Proofs.Ytmfilcdljfpnfaa.bitsBack
open Go.ChangeShapes Go.WideShapes Go.ChangeAt Go.RowKit

theorem quiet_calm {f : FuncId} {args : Array Value} {w : World} {n : Nat} {v : Value} (h : Calls Try.prog f args (w.drewN n) fun e w' => e = .returned v ∧ Calm (w.drewN n) w') :
    Calls Try.prog f args (w.drewN n) fun e w'' => e = .returned v ∧ ∃ m, w'' = w.drewN m :=
  h.mono fun _ _ ⟨he, m, hm⟩ => ⟨he, n + m, by rw [hm, World.drewN_drewN]⟩
theorem Rd.drewN {w : World} {B : Nat} {A : Option Addr} {l : List UInt8} (h : Rd w B A l) (n : Nat) : Rd (w.drewN n) B A l := h.calm ⟨n, rfl⟩
theorem cut_all (w : World) (B : Nat) (A : Option Addr) (l : List UInt8) (n c k : Nat) (hr : Rd w B A l) (hn : l.length = n) (hc : n ≤ c) (hk : k ≤ n) :
    ∃ A', (∀ w : World, (Instr.slice 22 (.slice A n c) (some (.int .i64 (k : Int))) none none).run Try.prog w = .ok (.slice A' (n - k) (c - k)) w) ∧ Rd w B A' (l.drop k) := by
  refine ⟨if c = k then A else A.map (·.add k), fun w => ?_, hr.drop (by omega)⟩
  rw [run_slice_l w 22 A n c Try.underlying22 .i64 k (by omega) (by omega)]
  have hs : (sizeOf (Try.prog.elem 22)).run Try.prog w = .ok 1 w := by kernel_rfl
  rw [hs]
  simp only [Result.andThen, sliced, Int.toNat_natCast, Nat.mul_one]
theorem same_true (w : World) (A1 A2 : Option Addr) (B1 B2 n c1 c2 : Nat) (L : List UInt8) (hr1 : Rd w B1 A1 L) (hr2 : Rd w B2 A2 L) (hn : L.length = n) (hb : n ≤ 140737488351232) :
    Calls Try.prog 14 #[.slice A1 n c1, .slice A2 n c2] w fun e w' => e = .returned (.bool true) ∧ Calm w w' := by
  subst hn
  have h := same_any w A1 A2 B1 B2 c1 c2 L L hr1 hr2 hb
  rw [decide_eq_true rfl] at h
  exact h
theorem own_cap {w : World} {base cap n : Nat} {A : Option Addr} {l : List UInt8} (h : Own w base (.slice A n cap) l) : l.length ≤ cap := by
  obtain ⟨_, h2⟩ := h
  rcases h2 with ⟨e, h0⟩ | ⟨g, cap', cur, hv, _, _, hle, _⟩
  · omega
  · cases hv; exact hle

set_option maxRecDepth 100000 in
set_option maxHeartbeats 2000000 in
theorem walk (A : Option Addr) (cap : Nat) (l : List UInt8) (a k N : Int) (W : World) (hr : Rd W W.heap.size A l) (hA : A = none → cap = 0) (hcap : l.length ≤ cap) (hl : l.length ≤ 140737488351232) :
    Calls Try.prog 5 #[.slice A l.length cap, .int .i64 a, .int .i64 k, .int .i64 N] W fun e w' => e = .returned (.bool true) ∧ Fr (fun _ => False) W w' := by
  by_cases hP : Std l.length a k ∧ goesB N k.toNat = true
  · obtain ⟨hS, hg⟩ := hP
    obtain ⟨h1, h2, h3, h4⟩ := id hS
    obtain ⟨k, rfl⟩ : ∃ x : Nat, k = x := ⟨k.toNat, by omega⟩
    have hg' : goesB N k = true := hg
    have hN := (goesB_iff N k).1 hg'
    obtain ⟨a, rfl⟩ : ∃ x : Nat, a = x := ⟨a.toNat, by omega⟩
    obtain ⟨N, rfl⟩ : ∃ x : Nat, N = x := ⟨N.toNat, by omega⟩
    obtain ⟨n, hn⟩ : ∃ n, n = l.length := ⟨_, rfl⟩
    have hak : a + k ≤ n := by omega
    have hk1 : 1 ≤ k := by omega
    have hk4 : k ≤ 4 := by omega
    rw [← hn] at hl hcap ⊢
    have HR := Lib.hid hr
    have HA := Lib.hid hA
    have HNL := Lib.hid hn.symm
    have HG := Lib.hid hg'
    have HN := Lib.hid (show N % 256 ^ k = N from Nat.mod_eq_of_lt (by omega))
    clear hr hA hn hg hg' hN hS h1 h2 h3 h4
    go_enter Try.func5, Try.ntmps5
    go_wp2_with fail
    refine (works_any W).mono ?_
    rintro e w1 ⟨rfl, hF⟩
    have HF := Lib.hid hF
    have HR1 := Lib.hid (HR.out.still hF (Nat.le_refl _))
    clear hF
    go_wp2_with fail
    refine (put_ok w1 A n cap _ a k N l HR1.out HNL.out HF.out.size HA.out hl hk1 hk4 hak HG.out).mono ?_
    rintro e w2 ⟨A2, cap2, rfl, ho, hA2, hF2⟩
    have HF2 := Lib.hid (HF.out.trans hF2 (fun _ _ e => e))
    have HL2 := Lib.hid (show (putL l a N k).length = n by rw [putL_length, HNL.out])
    have HO := Lib.hid ho.rd
    have HR2 := Lib.hid (HR1.out.still hF2 HF.out.size)
    have hc2 := own_cap ho
    rw [HL2.out] at hc2 ⊢
    clear ho hA2 hF2
    go_wp2_with fail
    refine (get_ok w2 A2 n cap2 _ a k (putL l a N k) HO.out HL2.out hl hk1 hk4 hak).mono ?_
    rintro e w' ⟨rfl, rfl⟩
    rw [putL_num l a N k (by rw [HNL.out]; exact hak), HN.out]
    have hl1 := fun w => cut_low w A2 n cap2 a (by omega)
    have hl2 := fun w => cut_low w A n cap a (by omega)
    obtain ⟨A3, hh1, hd1⟩ := cut_all w2 _ A2 (putL l a N k) n cap2 (a + k) HO.out HL2.out hc2 hak
    obtain ⟨A4, hh2, hd2⟩ := cut_all w2 _ A l n cap (a + k) HR2.out HNL.out hcap hak
    rw [putL_drop l a N k _ (Nat.le_refl _)] at hd1
    have HD1 := Lib.hid hd1
    have HD2 := Lib.hid hd2
    have ht1 := HO.out.take a
    rw [putL_take] at ht1
    have HT1 := Lib.hid ht1
    have HT2 := Lib.hid (HR2.out.take a)
    have HLT := Lib.hid (show (l.take a).length = a by rw [List.length_take, HNL.out]; omega)
    have HLD := Lib.hid (show (l.drop (a + k)).length = n - (a + k) by rw [List.length_drop, HNL.out])
    rw [Int.natCast_add] at hh1 hh2
    have HC1 := Lib.hid (fun m => quiet_calm (same_true (w2.drewN m) A2 A _ _ a cap2 cap _ (Rd.drewN HT1.out _) (Rd.drewN HT2.out _) HLT.out (by omega)))
    have HC2 := Lib.hid (fun m => quiet_calm (same_true (w2.drewN m) A3 A4 _ _ (n - (a + k)) (cap2 - (a + k)) (cap - (a + k)) _ (Rd.drewN HD1.out _) (Rd.drewN HD2.out _) HLD.out (by omega)))
    clear hd1 hd2 ht1
    go_wp2_with fail
    go_quiet ((first
      | (go_at_call 14; with_reducible exact HC1.out _)
      | (go_at_call 14; with_reducible exact HC2.out _)))
    go_wp2
    go_ret
    exact ⟨rfl, HF2.out.drewN _⟩
  · obtain ⟨n, hn⟩ : ∃ n, n = l.length := ⟨_, rfl⟩
    have HL := Lib.hid (show putL2 l a k N = [] from if_neg hP)
    have HE := Lib.hid (show putE l a k N = 2 from if_neg hP)
    rw [← hn] at hl ⊢
    have HR := Lib.hid hr
    have HA := Lib.hid hA
    have HNL := Lib.hid hn.symm
    clear hr hA hn hP hcap
    go_enter Try.func5, Try.ntmps5
    go_wp2_with fail
    refine (works_any W).mono ?_
    rintro e w1 ⟨rfl, hF⟩
    have HF := Lib.hid hF
    have HR1 := Lib.hid (HR.out.still hF (Nat.le_refl _))
    clear hF
    go_wp2_with fail
    refine (put_any w1 A n cap _ a k N l HR1.out HNL.out HF.out.size HA.out hl).mono ?_
    rw [HL.out, HE.out]
    rintro e w2 ⟨A2, cap2, rfl, ho, hF2⟩
    have HF2 := Lib.hid (HF.out.trans hF2 (fun _ _ e => e))
    clear ho hF2
    go_wp2_with fail
    go_ret
    exact ⟨rfl, HF2.out⟩

/-! ### the row -/
theorem own : ownKnob Try.prog.godebug = none := by kernel_rfl
set_option maxRecDepth 100000 in
theorem lifted (os : Os) (started : os.Started) (H : Type) (enc : TypeId × Value → H) :
    ReturnsInHanded {} Try.checked os 5 .any (Rows.bitsBackSpec.pre6 enc Try.prog Try.f5 Rows.bitsBackRow.domain false) (Rows.bitsBackSpec.post enc Try.prog Try.f5 false true false false) := by
  refine returnsInHanded_of_change_sized (C := Try.checked) own started (by kernel_rfl) Try.func5
    (ChangeSpec.witness6 (enc := enc) (C := Try.checked) false ⟨#[], #[.slice none 0 0, .int .i64 0, .int .i64 0, .int .i64 0], []⟩ 8 (by kernel_rfl) (by kernel_rfl) (by kernel_rfl) (by kernel_rfl)) ?_
  intro W base args ds gs before hval0 hW _ hsz0 _
  have hval : ∀ (j : Nat) t v, Try.f5.params[j]? = some t → args[j]? = some v → Value.okWide Try.prog W .any base t v := hval0
  have hsz : (DataW.weightsEach Try.prog (Try.f5.params.toList ++ Rows.bitsBackSpec.plain.varTypes Try.prog) (ds ++ gs)).all (· ≤ reachBytes) = true := hsz0
  have hW' := hW
  obtain ⟨p, q, hA0, hV, rfl, hfz, hnd⟩ := hW
  have hA : DataW.TrodAll enc Try.prog W 0 (fun _ => true) true Try.f5.params.toList args.toList ds p := hA0
  rw [Try.params5] at hA hval hsz
  obtain ⟨v0, vs0, d0, ds0, p0, q0, hargs, rfl, rfl, h0, r0⟩ := trodAll_cons hA
  obtain ⟨v1, vs1, d1, ds1, p1, q1, rfl, rfl, rfl, h1, r1⟩ := trodAll_cons r0
  obtain ⟨v2, vs2, d2, ds2, p2, q2, rfl, rfl, rfl, h2, r2⟩ := trodAll_cons r1
  obtain ⟨v3, vs3, d3, ds3, p3, q3, rfl, rfl, rfl, h3, r3⟩ := trodAll_cons r2
  obtain ⟨rfl, rfl, rfl⟩ := trodAll_nil r3
  obtain rfl : args = #[v0, v1, v2, v3] := by cases args; simp_all
  obtain ⟨rfl, rfl⟩ := trodVars_none hV
  obtain ⟨A0, cap0, l0, rfl, hr0, hA0, hc0, hl0⟩ := bytes_open (fun _ => rfl) (fun el sp (e : d0 = .slice el sp) => sized_slice hsz (j := 0) (t := 22) (e := 5) rfl (by rw [e]; rfl) Try.underlying22) (hval 0 22 v0 rfl rfl) h0
  obtain ⟨a1, rfl, rfl, rfl, w1⟩ := open_int Try.underlying3 (hval 1 3 v1 rfl rfl) h1
  obtain ⟨a2, rfl, rfl, rfl, w2⟩ := open_int Try.underlying3 (hval 2 3 v2 rfl rfl) h2
  obtain ⟨a3, rfl, rfl, rfl, w3⟩ := open_int Try.underlying3 (hval 3 3 v3 rfl rfl) h3
  clear hA0 hval0 hsz0
  simp only [List.append_nil] at hW'
  try simp only [List.nil_append] at hW'
  have hlt0 : ∀ x ∈ p0, x.block < W.heap.size := fun x hx => by simpa using hW'.lt x (by simp [hx])
  refine (walk A0 cap0 l0 a1 a2 a3 W hr0 hA0 hc0 hl0).mono fun e W' ⟨he, hg⟩ => ?_
  subst he
  have hB : Below W.heap.size W W' := hg.below (Nat.le_refl _) (fun _ _ e => e.elim)
  have t0 := Below.trod laidOut (by kernel_rfl) (of_decide_eq_true (by kernel_rfl)) h0 hB hlt0
  exact ⟨_, rfl, _, _, _, [], _, [], hW', trodAll_cons_mk (shut_bool Try.underlying4 _) trodAll_mk0, (trodAll_cons_mk t0 (trodAll_cons_mk (shut_int Try.underlying3 w1) (trodAll_cons_mk (shut_int Try.underlying3 w2) (trodAll_cons_mk (shut_int Try.underlying3 w3) trodAll_mk0)))), rfl, hB.frame _, fun h => by cases h⟩

theorem over : Rows.bitsBackRow.holds Try.pinned (OpenSpec.ofChange Rows.bitsBackSpec) :=
  OpenClaim.holds_of_wide 5 Try.f5 rfl rfl rfl rfl rfl rfl rfl ⟨rfl, rfl, rfl, rfl, rfl⟩ rfl rfl rfl rfl rfl (by kernel_rfl) Try.func5 (by kernel_rfl)
    (of_decide_eq_true (by kernel_rfl)) (by unfold Func.isWrapper; first | (rw [if_pos (by decide +kernel)]; kernel_rfl) | (rw [if_neg (by decide +kernel)]; exact ⟨rfl, rfl⟩))
    (fun os started H enc _ => lifted os started H enc)

theorem proved : Rows.BitsBackSaid := over
#print axioms proved

end Go.Proofs.Ytmfilcdljfpnfaa.bitsBack
