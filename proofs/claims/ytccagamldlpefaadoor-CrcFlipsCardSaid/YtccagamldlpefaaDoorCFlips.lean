/-
  CrcFlips: the checksum of bytes of which one is turned is told, or refused, as the document says, and is that of the bytes. No condition but what the row lists of the program's table.
-/
import Derived.Test.YtccagamldlpefaaDoorRows
import Derived.Test.YtccagamldlpefaaDoorCrcH
import Derived.Test.YtccagamldlpefaaDoorCrcW
import Derived.Test.YtccagamldlpefaaDoorCards
import Derived.Test.YtccagamldlpefaaDoorTie
import Derived.SevenTiedAt
namespace Go.Proofs.YtccagamldlpefaaDoor.crcFlips
open Go.ChangeShapes Go.WideShapes Go.ChangeAt Go.RowKit

/-- Whatever a flip is asked, both answer alike. -/
theorem both (s : W32) (n k : Int) (x : UInt8) : ∃ R E : Int,
    (∀ w, Tab w → Calls Tryd.prog 18 #[.int .u32 (uv s), .int .i64 n, .int .i64 k, .int .u8 (x.toNat : Int)] w fun e w' => e = .returned (.tuple #[.int .u32 R, .int .i64 E]) ∧ w = w') ∧
    (∀ w, Calls Tryd.prog 19 #[.int .u32 (uv s), .int .i64 n, .int .i64 k, .int .u8 (x.toNat : Int)] w fun e w' => e = .returned (.tuple #[.int .u32 R, .int .i64 E]) ∧ Fr (fun _ => False) w w') := by
  by_cases h : flipBad n k
  · refine ⟨0, 2, fun w _ => flip_bad w _ n k _ h, fun w => (rflip_bad w _ n k _ h).mono ?_⟩
    rintro e w' ⟨rfl, rfl⟩
    exact ⟨rfl, Fr.refl _ _⟩
  · unfold flipBad at h
    obtain ⟨N, rfl⟩ : ∃ N : Nat, n = (N : Int) := ⟨n.toNat, by omega⟩
    obtain ⟨K, rfl⟩ : ∃ K : Nat, k = (K : Int) := ⟨k.toNat, by omega⟩
    exact ⟨uv (s ^^^ delta N K x), 0, fun w hT => flip_ok w hT s N K x (by omega) (by omega), fun w => rflip_ok w s N K x (by omega) (by omega)⟩

set_option maxRecDepth 100000 in
set_option maxHeartbeats 1000000 in
theorem walk (A : Option Addr) (cap : Nat) (l : List UInt8) (s : W32) (a2 a3 : Int) (x : UInt8) (W : World) (hT : Tab W) (hr : Rd W W.heap.size A l) (hA : A = none → cap = 0) (hl : l.length ≤ 140737488351232) :
    Calls Tryd.prog 4 #[.slice A l.length cap, .int .u32 (uv s), .int .i64 a2, .int .i64 a3, .int .u8 (x.toNat : Int)] W fun e w' => e = .returned (.bool true) ∧ Fr (fun _ => False) W w' := by
  obtain ⟨n, hn⟩ : ∃ n, n = l.length := ⟨_, rfl⟩
  rw [← hn] at hl ⊢
  obtain ⟨R, E, hb1, hb2⟩ := both s a2 a3 x
  have HB1 := Lib.hid (hb1 W hT)
  have HB2 := Lib.hid (hb2 W)
  have HT := Lib.hid hT
  have HR := Lib.hid hr
  have HA := Lib.hid hA
  have HN := Lib.hid hn
  clear hT hr hA hn hb1 hb2
  go_enter Tryd.func4, Tryd.ntmps4
  go_wp2_with fail
  refine (HB1.out).mono ?_
  rintro e w' ⟨rfl, rfl⟩
  go_wp2_with fail
  refine (HB2.out).mono ?_
  rintro e w1 ⟨rfl, hF⟩
  have HF := Lib.hid hF
  clear hF
  go_wp2_with fail
  refine (works_any w1 (HT.out.fr HF.out)).mono ?_
  rintro e w2 ⟨rfl, hF⟩
  have HF2 := Lib.hid (HF.out.trans hF (fun _ _ e => e))
  clear hF HF
  by_cases h0 : n = 0
  · subst h0
    go_wp2_with fail
    go_ret
    exact ⟨rfl, HF2.out⟩
  · have t0 : ((n : Int) == 0) = false := by rw [beq_eq_false_iff_ne]; omega
    by_cases h6 : 65536 < (n : Int)
    · clear h0
      go_wp2_with fail
      go_ret
      exact ⟨rfl, HF2.out⟩
    · have h1 : 1 ≤ n := by omega
      have h6' : (n : Int) ≤ 65536 := by omega
      clear h0 h6
      have HR1 := Lib.hid (HR.out.still HF2.out (Nat.le_refl _))
      have HS := Lib.hid HF2.out.size
      have HT2 := Lib.hid (HT.out.fr HF2.out)
      go_wp2_with fail
      refine (among_nat _ _ n h1 (by omega)).mono ?_
      rintro e w' ⟨k, hk, rfl, rfl⟩
      have hkl : k < l.length := by have := HN.out; omega
      go_wp2_with fail
      refine (bytes_rd HR1.out HS.out HA.out HN.out.symm hl).mono ?_
      rintro e w3 ⟨A2, cap2, rfl, ho, hF3⟩
      obtain ⟨g, rfl, hg, _, hc, hf, hset⟩ := ho.at_ hkl
      have ho2 := hset (l[k] ^^^ x)
      have hF4 := (HF2.out.trans hF3 (fun _ _ e => e)).setCell (p := ⟨g, k, none⟩) (Or.inr (Nat.le_trans HS.out hg)) (.int .u8 ((l[k] ^^^ x).toNat : Int))
      have hT4 := HT.out.fr hF4
      have hr4 := HR.out.still hF4 (Nat.le_refl _)
      have r1 := bits_xor8 l[k] x
      have hflip := crc_flip 0#32 x hkl
      rw [← HN.out] at hflip
      have H1 := Lib.hid (sum_own hT4 ho2 (n := n) (by rw [List.length_set]; exact HN.out.symm) (by omega))
      have H2 := Lib.hid (sum_rd (cap := cap) hT4 hr4 (n := n) HN.out.symm (by omega))
      have H3 := Lib.hid (flip_ok _ hT4 (crcMore 0#32 l) n k x hk (by omega))
      rw [hflip] at H1
      have HF4 := Lib.hid hF4
      generalize ((l[k] ^^^ x).toNat : Int) = y at r1 H1 H2 H3 HF4
      generalize (l[k].toNat : Int) = z at hc r1
      have hk0 : (0 : Int) ≤ k := by omega
      have hkn : (k : Int) < n := by omega
      clear ho2 hset hF4 hT4 hr4 hflip hg hkl ho hF3
      go_wp2_with fail
      refine H2.out.mono ?_
      rintro e w' ⟨rfl, rfl⟩
      go_wp2_with fail
      refine H3.out.mono ?_
      rintro e w' ⟨rfl, rfl⟩
      go_wp2_with fail
      refine H1.out.mono ?_
      rintro e w' ⟨rfl, rfl⟩
      go_wp2_with fail
      go_ret
      exact ⟨by simp, HF4.out⟩

/-! ### the row -/
theorem own : ownKnob Tryd.prog.godebug = none := by kernel_rfl
set_option maxRecDepth 100000 in
theorem lifted (os : Os) (started : os.Started) (H : Type) (enc : TypeId × Value → H) :
    ReturnsInHanded {} Tryd.checked os 4 .any (fun w args => (Rows.crcFlipsSpec.pre enc Tryd.prog Tryd.f4 [] false w args ∧ laidMetH Tryd.prog laidL w) ∧ sizedMet enc Tryd.prog Tryd.f4 (OpenSpec.ofChange Rows.crcFlipsSpec) false w args)
      (Rows.crcFlipsSpec.post enc Tryd.prog Tryd.f4 false true false false) := by
  refine returnsInHanded_of_change_and (C := Tryd.checked) (X := fun w _ => laidMetH Tryd.prog laidL w) (fun _ _ _ hh h => h.of_heap hh) own started (by kernel_rfl) Tryd.func4
    (ChangeSpec.witness_shaped (enc := enc) (C := Tryd.checked) (os := os) (X := fun w _ => laidMetH Tryd.prog laidL w) false (World.doorLaid Tryd.prog 400 os) #[.slice none 0 0, .int .u32 0, .int .i64 0, .int .i64 0, .int .u8 0] 8 rfl (World.shaped_of_RefB (by kernel_rfl) (by kernel_rfl)) (by kernel_rfl) (by kernel_rfl) (by kernel_rfl) (door_met os _)) ?_
  intro W base args ds gs before hval0 hW _ hsz0 hL _
  have hval : ∀ (j : Nat) t v, Tryd.f4.params[j]? = some t → args[j]? = some v → Value.okWide Tryd.prog W .any base t v := hval0
  have hsz : (DataW.weightsEach Tryd.prog (Tryd.f4.params.toList ++ Rows.crcFlipsSpec.plain.varTypes Tryd.prog) (ds ++ gs)).all (· ≤ reachBytes) = true := hsz0
  have hW' := hW
  obtain ⟨p, q, hA0, hV, rfl, hfz, hnd⟩ := hW
  have hA : DataW.TrodAll enc Tryd.prog W 0 (fun _ => true) true Tryd.f4.params.toList args.toList ds p := hA0
  rw [Tryd.params4] at hA hval hsz
  obtain ⟨v0, vs0, d0, ds0, p0, q0, hargs, rfl, rfl, h0, r0⟩ := trodAll_cons hA
  obtain ⟨v1, vs1, d1, ds1, p1, q1, rfl, rfl, rfl, h1, r1⟩ := trodAll_cons r0
  obtain ⟨v2, vs2, d2, ds2, p2, q2, rfl, rfl, rfl, h2, r2⟩ := trodAll_cons r1
  obtain ⟨v3, vs3, d3, ds3, p3, q3, rfl, rfl, rfl, h3, r3⟩ := trodAll_cons r2
  obtain ⟨v4, vs4, d4, ds4, p4, q4, rfl, rfl, rfl, h4, r4⟩ := trodAll_cons r3
  obtain ⟨rfl, rfl, rfl⟩ := trodAll_nil r4
  obtain rfl : args = #[v0, v1, v2, v3, v4] := by cases args; simp_all
  obtain ⟨rfl, rfl⟩ := trodVars_none hV
  obtain ⟨A0, cap0, l0, rfl, hr0, hA0, hc0, hl0⟩ := bytes_open (fun _ => rfl) (fun el sp (e : d0 = .slice el sp) => sized_slice hsz (j := 0) (t := 22) (e := 5) rfl (by rw [e]; rfl) Tryd.underlying22) (hval 0 22 v0 rfl rfl) h0
  obtain ⟨a1, rfl, rfl, rfl, w1⟩ := open_int Tryd.underlying23 (hval 1 23 v1 rfl rfl) h1
  obtain ⟨a2, rfl, rfl, rfl, w2⟩ := open_int Tryd.underlying3 (hval 2 3 v2 rfl rfl) h2
  obtain ⟨a3, rfl, rfl, rfl, w3⟩ := open_int Tryd.underlying3 (hval 3 3 v3 rfl rfl) h3
  obtain ⟨a4, rfl, rfl, rfl, w4⟩ := open_int Tryd.underlying5 (hval 4 5 v4 rfl rfl) h4
  clear hA0 hval0 hsz0
  simp only [List.append_nil] at hW'
  try simp only [List.nil_append] at hW'
  have hlt0 : ∀ x ∈ p0, x.block < W.heap.size := fun x hx => by simpa using hW'.lt x (by simp [hx])
  obtain ⟨s, rfl⟩ := u32_of_wf w1
  obtain ⟨x, rfl⟩ := u8_of_wf w4
  have hT := tab_of_laid hL
  refine (walk A0 cap0 l0 s a2 a3 x W hT hr0 hA0 hl0).mono fun e W' ⟨he, hg⟩ => ?_
  subst he
  have hB : Below W.heap.size W W' := hg.below (Nat.le_refl _) (fun _ _ e => e.elim)
  have t0 := Below.trod laidOut (by kernel_rfl) (of_decide_eq_true (by kernel_rfl)) h0 hB hlt0
  exact ⟨_, rfl, _, _, _, [], _, [], hW', trodAll_cons_mk (shut_bool Tryd.underlying4 _) trodAll_mk0, (trodAll_cons_mk t0 (trodAll_cons_mk (shut_int Tryd.underlying23 w1) (trodAll_cons_mk (shut_int Tryd.underlying3 w2) (trodAll_cons_mk (shut_int Tryd.underlying3 w3) (trodAll_cons_mk (shut_int Tryd.underlying5 w4) trodAll_mk0))))), rfl, hB.frame _, fun h => by cases h⟩

theorem over : Rows.crcFlipsRow.holds Tryd.pinned (OpenSpec.ofChange Rows.crcFlipsSpec) :=
  OpenClaim.holds_of_wide 4 Tryd.f4 rfl rfl rfl rfl rfl rfl rfl ⟨rfl, rfl, rfl, rfl, rfl⟩ rfl rfl rfl rfl rfl (by kernel_rfl) Tryd.func4 (by kernel_rfl)
    (of_decide_eq_true (by kernel_rfl)) (by unfold Func.isWrapper; first | (rw [if_pos (by decide +kernel)]; kernel_rfl) | (rw [if_neg (by decide +kernel)]; exact ⟨rfl, rfl⟩))
    (fun os started H enc _ => lifted os started H enc)

theorem proved : Rows.CrcFlipsCardSaid :=
  Claim7.holds_tied_plain_at .later [] [.data] true Rows.crcFlipsCard.stood.harness false
    over (fun _ h => by cases h) (by kernel_rfl) (fun _ h => by cases h) crcFlips_row_tie rfl ⟨rfl, rfl⟩ (by kernel_rfl) rfl
    (fun f fn hf hfn => by
      obtain rfl : f = 4 := Option.some.inj ((show Tryd.prog.funcNamed "sutler/sutlerlaw02.CrcFlips" = some 4 by kernel_rfl).symm.trans hf) |>.symm
      obtain rfl : fn = Tryd.f4 := (Option.some.inj (Tryd.func4.symm.trans hfn)).symm
      exact ⟨by kernel_rfl, fun j t ht => by
        rw [Tryd.params4] at ht
        have hm : t ∈ [22, 23, 3, 3, 5] := by simpa using Array.mem_of_getElem? ht
        have hall : ([22, 23, 3, 3, 5].all fun u => !Tryd.prog.wantsStandIn u) = true := by kernel_rfl
        exact (show Tryd.prog.wantsStandIn t = false by simpa using List.all_eq_true.1 hall t hm)⟩)
    (by kernel_rfl)
#print axioms proved

end Go.Proofs.YtccagamldlpefaaDoor.crcFlips
