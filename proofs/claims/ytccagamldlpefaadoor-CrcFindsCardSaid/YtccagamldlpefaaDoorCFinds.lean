/-
  CrcFinds: bytes that differ in one place only have other checksums, whatever the bytes, the place and what it is turned by. No condition but what the row lists of the program's table.
-/
import Derived.Test.YtccagamldlpefaaDoorRows
import Derived.Test.YtccagamldlpefaaDoorCrcH
import Derived.Test.YtccagamldlpefaaDoorCrcW
import Derived.Test.YtccagamldlpefaaDoorCards
import Derived.Test.YtccagamldlpefaaDoorTie
import Derived.SevenTiedAt
namespace Go.Proofs.YtccagamldlpefaaDoor.crcFinds
open Go.ChangeShapes Go.WideShapes Go.ChangeAt Go.RowKit

set_option maxRecDepth 100000 in
set_option maxHeartbeats 1000000 in
theorem walk (A : Option Addr) (cap : Nat) (l : List UInt8) (a1 : Int) (x : UInt8) (W : World) (hT : Tab W) (hr : Rd W W.heap.size A l) (hA : A = none → cap = 0) (hl : l.length ≤ 140737488351232) :
    Calls Tryd.prog 6 #[.slice A l.length cap, .int .i64 a1, .int .u8 (x.toNat : Int)] W fun e w' => e = .returned (.bool true) ∧ Fr (fun _ => False) W w' := by
  obtain ⟨n, hn⟩ : ∃ n, n = l.length := ⟨_, rfl⟩
  rw [← hn] at hl ⊢
  have HT := Lib.hid hT
  have HR := Lib.hid hr
  have HA := Lib.hid hA
  have HN := Lib.hid hn
  clear hT hr hA hn
  by_cases h0 : n = 0
  · subst h0
    go_enter Tryd.func6, Tryd.ntmps6
    go_wp2_with fail
    refine (works_any W HT.out).mono ?_
    rintro e w1 ⟨rfl, hF⟩
    have HF := Lib.hid hF
    clear hF
    go_wp2_with fail
    go_ret
    exact ⟨rfl, HF.out⟩
  · have h1 : 1 ≤ n := by omega
    have t0 : ((n : Int) == 0) = false := by rw [beq_eq_false_iff_ne]; omega
    clear h0
    by_cases hx : x = 0
    · subst hx
      have t1 : (((0 : UInt8).toNat : Int) == 0) = true := by decide
      go_enter Tryd.func6, Tryd.ntmps6
      go_wp2_with fail
      refine (works_any W HT.out).mono ?_
      rintro e w1 ⟨rfl, hF⟩
      have HF := Lib.hid hF
      clear hF
      go_wp2_with fail
      go_ret
      exact ⟨rfl, HF.out⟩
    · have t1 : ((x.toNat : Int) == 0) = false := by
        rw [beq_eq_false_iff_ne]
        intro e
        exact hx (UInt8.toNat_inj.1 (by rw [show (0 : UInt8).toNat = 0 from rfl]; omega))
      have HX := Lib.hid hx
      clear hx
      go_enter Tryd.func6, Tryd.ntmps6
      go_wp2_with fail
      refine (works_any W HT.out).mono ?_
      rintro e w1 ⟨rfl, hF⟩
      have HF := Lib.hid hF
      have HR1 := Lib.hid (HR.out.still hF (Nat.le_refl _))
      have HS := Lib.hid hF.size
      clear hF
      go_wp2_with fail
      refine (bytes_rd HR1.out HS.out HA.out HN.out.symm hl).mono ?_
      rintro e w2 ⟨A2, cap2, rfl, ho, hF2⟩
      have HO := Lib.hid ho
      have HF2 := Lib.hid (HF.out.trans hF2 (fun _ _ e => e))
      have HR2 := Lib.hid (HR1.out.still hF2 HS.out)
      have HS2 := Lib.hid (Nat.le_trans HS.out hF2.size)
      clear ho hF2 HF HR1
      go_wp2_with fail
      refine (among_nat _ _ n h1 (by omega)).mono ?_
      rintro e w' ⟨k, hk, rfl, rfl⟩
      have hkl : k < l.length := by have := HN.out; omega
      obtain ⟨g, rfl, hg, _, hc, hf, hset⟩ := HO.out.at_ hkl
      have ho2 := hset (l[k] ^^^ x)
      have hF3 := HF2.out.setCell (p := ⟨g, k, none⟩) (Or.inr (Nat.le_trans HS.out hg)) (.int .u8 ((l[k] ^^^ x).toNat : Int))
      have hT3 := HT.out.fr hF3
      have hr3 := HR.out.still hF3 (Nat.le_refl _)
      have r1 := bits_xor8 l[k] x
      have hfind := crc_finds 0#32 hkl HX.out
      have H1 := Lib.hid (sum_own hT3 ho2 (n := n) (by rw [List.length_set]; exact HN.out.symm) (by omega))
      have H2 := Lib.hid (sum_rd (cap := cap) hT3 hr3 (n := n) HN.out.symm (by omega))
      have t2 : (uv (crcMore 0#32 (l.set k (l[k] ^^^ x))) != uv (crcMore 0#32 l)) = true := by
        rw [bne_iff_ne]
        exact fun e => hfind (uv_inj e)
      have HF3 := Lib.hid hF3
      generalize ((l[k] ^^^ x).toNat : Int) = y at r1 H1 H2 HF3
      generalize (l[k].toNat : Int) = z at hc r1
      generalize l.set k (l[k] ^^^ x) = m at H1 t2
      have hk0 : (0 : Int) ≤ k := by omega
      have hkn : (k : Int) < n := by omega
      clear ho2 hset hF3 hT3 hr3 hfind hg hkl HO HF2 HR2 HS2
      go_wp2_with fail
      refine H1.out.mono ?_
      rintro e w' ⟨rfl, rfl⟩
      go_wp2_with fail
      refine H2.out.mono ?_
      rintro e w' ⟨rfl, rfl⟩
      go_wp2_with fail
      go_ret
      exact ⟨rfl, HF3.out⟩

/-! ### the row -/
theorem own : ownKnob Tryd.prog.godebug = none := by kernel_rfl
set_option maxRecDepth 100000 in
theorem lifted (os : Os) (started : os.Started) (H : Type) (enc : TypeId × Value → H) :
    ReturnsInHanded {} Tryd.checked os 6 .any (fun w args => (Rows.crcFindsSpec.pre enc Tryd.prog Tryd.f6 [] false w args ∧ laidMetH Tryd.prog laidL w) ∧ sizedMet enc Tryd.prog Tryd.f6 (OpenSpec.ofChange Rows.crcFindsSpec) false w args)
      (Rows.crcFindsSpec.post enc Tryd.prog Tryd.f6 false true false false) := by
  refine returnsInHanded_of_change_and (C := Tryd.checked) (X := fun w _ => laidMetH Tryd.prog laidL w) (fun _ _ _ hh h => h.of_heap hh) own started (by kernel_rfl) Tryd.func6
    (ChangeSpec.witness_shaped (enc := enc) (C := Tryd.checked) (os := os) (X := fun w _ => laidMetH Tryd.prog laidL w) false (World.doorLaid Tryd.prog 400 os) #[.slice none 0 0, .int .i64 0, .int .u8 0] 8 rfl (World.shaped_of_RefB (by kernel_rfl) (by kernel_rfl)) (by kernel_rfl) (by kernel_rfl) (by kernel_rfl) (door_met os _)) ?_
  intro W base args ds gs before hval0 hW _ hsz0 hL _
  have hval : ∀ (j : Nat) t v, Tryd.f6.params[j]? = some t → args[j]? = some v → Value.okWide Tryd.prog W .any base t v := hval0
  have hsz : (DataW.weightsEach Tryd.prog (Tryd.f6.params.toList ++ Rows.crcFindsSpec.plain.varTypes Tryd.prog) (ds ++ gs)).all (· ≤ reachBytes) = true := hsz0
  have hW' := hW
  obtain ⟨p, q, hA0, hV, rfl, hfz, hnd⟩ := hW
  have hA : DataW.TrodAll enc Tryd.prog W 0 (fun _ => true) true Tryd.f6.params.toList args.toList ds p := hA0
  rw [Tryd.params6] at hA hval hsz
  obtain ⟨v0, vs0, d0, ds0, p0, q0, hargs, rfl, rfl, h0, r0⟩ := trodAll_cons hA
  obtain ⟨v1, vs1, d1, ds1, p1, q1, rfl, rfl, rfl, h1, r1⟩ := trodAll_cons r0
  obtain ⟨v2, vs2, d2, ds2, p2, q2, rfl, rfl, rfl, h2, r2⟩ := trodAll_cons r1
  obtain ⟨rfl, rfl, rfl⟩ := trodAll_nil r2
  obtain rfl : args = #[v0, v1, v2] := by cases args; simp_all
  obtain ⟨rfl, rfl⟩ := trodVars_none hV
  obtain ⟨A0, cap0, l0, rfl, hr0, hA0, hc0, hl0⟩ := bytes_open (fun _ => rfl) (fun el sp (e : d0 = .slice el sp) => sized_slice hsz (j := 0) (t := 22) (e := 5) rfl (by rw [e]; rfl) Tryd.underlying22) (hval 0 22 v0 rfl rfl) h0
  obtain ⟨a1, rfl, rfl, rfl, w1⟩ := open_int Tryd.underlying3 (hval 1 3 v1 rfl rfl) h1
  obtain ⟨a2, rfl, rfl, rfl, w2⟩ := open_int Tryd.underlying5 (hval 2 5 v2 rfl rfl) h2
  clear hA0 hval0 hsz0
  simp only [List.append_nil] at hW'
  try simp only [List.nil_append] at hW'
  have hlt0 : ∀ x ∈ p0, x.block < W.heap.size := fun x hx => by simpa using hW'.lt x (by simp [hx])
  obtain ⟨x, rfl⟩ := u8_of_wf w2
  have hT := tab_of_laid hL
  refine (walk A0 cap0 l0 a1 x W hT hr0 hA0 hl0).mono fun e W' ⟨he, hg⟩ => ?_
  subst he
  have hB : Below W.heap.size W W' := hg.below (Nat.le_refl _) (fun _ _ e => e.elim)
  have t0 := Below.trod laidOut (by kernel_rfl) (of_decide_eq_true (by kernel_rfl)) h0 hB hlt0
  exact ⟨_, rfl, _, _, _, [], _, [], hW', trodAll_cons_mk (shut_bool Tryd.underlying4 _) trodAll_mk0, (trodAll_cons_mk t0 (trodAll_cons_mk (shut_int Tryd.underlying3 w1) (trodAll_cons_mk (shut_int Tryd.underlying5 w2) trodAll_mk0))), rfl, hB.frame _, fun h => by cases h⟩

theorem over : Rows.crcFindsRow.holds Tryd.pinned (OpenSpec.ofChange Rows.crcFindsSpec) :=
  OpenClaim.holds_of_wide 6 Tryd.f6 rfl rfl rfl rfl rfl rfl rfl ⟨rfl, rfl, rfl, rfl, rfl⟩ rfl rfl rfl rfl rfl (by kernel_rfl) Tryd.func6 (by kernel_rfl)
    (of_decide_eq_true (by kernel_rfl)) (by unfold Func.isWrapper; first | (rw [if_pos (by decide +kernel)]; kernel_rfl) | (rw [if_neg (by decide +kernel)]; exact ⟨rfl, rfl⟩))
    (fun os started H enc _ => lifted os started H enc)

theorem proved : Rows.CrcFindsCardSaid :=
  Claim7.holds_tied_plain_at .later [] [.data] true Rows.crcFindsCard.stood.harness false
    over (fun _ h => by cases h) (by kernel_rfl) (fun _ h => by cases h) crcFinds_row_tie rfl ⟨rfl, rfl⟩ (by kernel_rfl) rfl
    (fun f fn hf hfn => by
      obtain rfl : f = 6 := Option.some.inj ((show Tryd.prog.funcNamed "sutler/sutlerlaw02.CrcFinds" = some 6 by kernel_rfl).symm.trans hf) |>.symm
      obtain rfl : fn = Tryd.f6 := (Option.some.inj (Tryd.func6.symm.trans hfn)).symm
      exact ⟨by kernel_rfl, fun j t ht => by
        rw [Tryd.params6] at ht
        have hm : t ∈ [22, 3, 5] := by simpa using Array.mem_of_getElem? ht
        have hall : ([22, 3, 5].all fun u => !Tryd.prog.wantsStandIn u) = true := by kernel_rfl
        exact (show Tryd.prog.wantsStandIn t = false by simpa using List.all_eq_true.1 hall t hm)⟩)
    (by kernel_rfl)
#print axioms proved

end Go.Proofs.YtccagamldlpefaaDoor.crcFinds
