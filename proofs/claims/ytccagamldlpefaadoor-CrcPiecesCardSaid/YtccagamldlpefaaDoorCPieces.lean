/-
  CrcPieces: the checksum of pieces, one behind the other, is that of all at once, whatever the bytes and the cuts. No condition but what the row lists of the program's table.
-/
import Derived.Test.YtccagamldlpefaaDoorRows
import Derived.Test.YtccagamldlpefaaDoorCrcH
import Derived.Test.YtccagamldlpefaaDoorCrcW
import Derived.Test.YtccagamldlpefaaDoorCards
import Derived.Test.YtccagamldlpefaaDoorTie
import Derived.SevenTiedAt
namespace Go.Proofs.YtccagamldlpefaaDoor.crcPieces
open Go.ChangeShapes Go.WideShapes Go.ChangeAt Go.RowKit

theorem more_rd {w : World} (hT : Tab w) {n cap B : Nat} {A : Option Addr} {l : List UInt8} {s r : W32} (hr : Rd w B A l) (hn : l.length = n) (hl : n ≤ 9223372036854775807) (hs : crcMore s l = r) :
    Calls Tryd.prog 12 #[.int .u32 (uv s), .slice A n cap] w fun e w' => e = .returned (.int .u32 (uv r)) ∧ w = w' := by
  subst hn
  subst hs
  exact more_any w hT s A cap B l hr hl
theorem more_part (l : List UInt8) (p k : Nat) : crcMore (crcMore 0#32 (l.take p)) ((l.drop p).take k) = crcMore 0#32 (l.take (p + k)) := by
  rw [← crc_append, ← List.take_add]
theorem zero_at (l : List UInt8) : Value.int IntKind.u32 0 = .int .u32 (uv (crcMore 0#32 (l.take 0))) := by rw [List.take_zero, crc_none]
theorem more_rest (l : List UInt8) (p : Nat) : crcMore (crcMore 0#32 (l.take p)) (l.drop p) = crcMore 0#32 l := by
  rw [← crc_append, List.take_append_drop]

set_option maxRecDepth 100000 in
set_option maxHeartbeats 1000000 in
theorem walk (A : Option Addr) (cap : Nat) (l : List UInt8) (A2 : Option Addr) (cap2 : Nat) (cs : List Int) (W : World) (hT : Tab W) (hr : Rd W W.heap.size A l) (hc : l.length ≤ cap) (hl : l.length ≤ 140737488351232)
    (hr2 : RdI W W.heap.size A2 cs) (hl2 : cs.length ≤ 140737488351232) :
    Calls Tryd.prog 5 #[.slice A l.length cap, .slice A2 cs.length cap2] W fun e w' => e = .returned (.bool true) ∧ Fr (fun _ => False) W w' := by
  obtain ⟨n, hn⟩ : ∃ n, n = l.length := ⟨_, rfl⟩
  obtain ⟨m, hm⟩ : ∃ m, m = cs.length := ⟨_, rfl⟩
  rw [← hn] at hl hc ⊢
  rw [← hm] at hl2 ⊢
  have HT := Lib.hid hT
  have HR := Lib.hid hr
  have HR2 := Lib.hid hr2
  have HN := Lib.hid hn
  have HM := Lib.hid hm
  clear hT hr hr2 hn hm
  go_enter Tryd.func5, Tryd.ntmps5
  go_wp2_with fail
  refine (works_any W HT.out).mono ?_
  rintro e w1 ⟨rfl, hF⟩
  have HF := Lib.hid hF
  have HT1 := Lib.hid (HT.out.fr hF)
  have HR1 := Lib.hid (HR.out.still hF (Nat.le_refl _))
  have HR21 := Lib.hid (HR2.out.still hF (Nat.le_refl _))
  clear hF HR HR2 HT
  go_wp2_with fail
  go_loop [5, 6, 7] (fun s r i => ∃ (j p c : Nat) (A' : Option Addr), j ≤ m ∧ p ≤ n ∧ n - p ≤ c ∧ i = .int .i64 j ∧ s = .int .u32 (uv (crcMore 0#32 (l.take p))) ∧ r = .slice A' (n - p) c ∧ Hid (Rd w1 W.heap.size A' (l.drop p))) (fun _ _ i => m - (intOf i).toNat)
  case atStart => exact ⟨0, 0, cap, A, Nat.zero_le _, Nat.zero_le _, by omega, rfl, zero_at l, rfl, HR1⟩
  case round =>
    obtain ⟨j, p, c, A', hj, hp, hcp, rfl, rfl, rfl, HA⟩ := hrel
    have hdl : (l.drop p).length = n - p := by rw [List.length_drop, ← HN.out]
    have HD := Lib.hid hdl
    by_cases hlt : j < m
    · have hj1 : j < cs.length := by have := HM.out; omega
      obtain ⟨blk, off, rfl, _, hcell, hz1, hz2⟩ := HR21.out.at_ hj1
      generalize cs[j] = z at hcell hz1 hz2
      clear hdl hj1
      obtain ⟨q, hq⟩ : ∃ q, q = n - p := ⟨_, rfl⟩
      rw [← hq] at hcp HD ⊢
      have hq1 : q ≤ 140737488351232 := by omega
      have HQ := Lib.hid hq
      clear hq
      go_wp2_with fail
      rw [show (q : Int) + 1 = ((q + 1 : Nat) : Int) by omega]
      refine (among_nat _ _ (q + 1) (by omega) (by omega)).mono ?_
      rintro e w' ⟨k, hk, rfl, rfl⟩
      have hcl := cut_low w1 A' q c k (by omega)
      obtain ⟨A'', hch, hrd⟩ := cut_high w1 _ A' (l.drop p) q c k HA.out HD.out hcp (by omega)
      have hlk : ((l.drop p).take k).length = k := by rw [List.length_take, HD.out]; omega
      have H1 := Lib.hid (more_rd (cap := c) HT1.out (HA.out.take k) hlk (by omega) (more_part l p k))
      rw [List.drop_drop] at hrd
      have HA'' := Lib.hid hrd
      have hqk : q - k = n - (p + k) := by have := HQ.out; omega
      rw [hqk] at hch
      have hpk : p + k ≤ n := by have := HQ.out; omega
      have hck : n - (p + k) ≤ c - k := by omega
      clear hlk hrd hqk
      go_wp2_with fail
      refine H1.out.mono ?_
      rintro e w' ⟨rfl, rfl⟩
      go_wp2_with fail
      go_round
      case rel => exact ⟨j + 1, p + k, c - k, A'', by omega, hpk, hck, by go_num, rfl, rfl, HA''⟩
      case measure => simp [intOf]; omega
    · have hjm : j = m := by omega
      subst hjm
      have H1 := Lib.hid (more_rd (cap := c) HT1.out HA.out hdl (by omega) (more_rest l p))
      have H2 := Lib.hid (sum_rd (cap := cap) HT1.out HR1.out (n := n) HN.out.symm (by omega))
      clear hdl
      go_wp2_with fail
      refine H1.out.mono ?_
      rintro e w' ⟨rfl, rfl⟩
      go_wp2_with fail
      refine H2.out.mono ?_
      rintro e w' ⟨rfl, rfl⟩
      go_wp2_with fail
      go_ret
      exact ⟨by simp, HF.out⟩

/-! ### the row -/
theorem own : ownKnob Tryd.prog.godebug = none := by kernel_rfl
set_option maxRecDepth 100000 in
theorem lifted (os : Os) (started : os.Started) (H : Type) (enc : TypeId × Value → H) :
    ReturnsInHanded {} Tryd.checked os 5 .any (fun w args => (Rows.crcPiecesSpec.pre enc Tryd.prog Tryd.f5 [] false w args ∧ laidMetH Tryd.prog laidL w) ∧ sizedMet enc Tryd.prog Tryd.f5 (OpenSpec.ofChange Rows.crcPiecesSpec) false w args)
      (Rows.crcPiecesSpec.post enc Tryd.prog Tryd.f5 false true false false) := by
  refine returnsInHanded_of_change_and (C := Tryd.checked) (X := fun w _ => laidMetH Tryd.prog laidL w) (fun _ _ _ hh h => h.of_heap hh) own started (by kernel_rfl) Tryd.func5
    (ChangeSpec.witness_shaped (enc := enc) (C := Tryd.checked) (os := os) (X := fun w _ => laidMetH Tryd.prog laidL w) false (World.doorLaid Tryd.prog 400 os) #[.slice none 0 0, .slice none 0 0] 8 rfl (World.shaped_of_RefB (by kernel_rfl) (by kernel_rfl)) (by kernel_rfl) (by kernel_rfl) (by kernel_rfl) (door_met os _)) ?_
  intro W base args ds gs before hval0 hW _ hsz0 hL _
  have hval : ∀ (j : Nat) t v, Tryd.f5.params[j]? = some t → args[j]? = some v → Value.okWide Tryd.prog W .any base t v := hval0
  have hsz : (DataW.weightsEach Tryd.prog (Tryd.f5.params.toList ++ Rows.crcPiecesSpec.plain.varTypes Tryd.prog) (ds ++ gs)).all (· ≤ reachBytes) = true := hsz0
  have hW' := hW
  obtain ⟨p, q, hA0, hV, rfl, hfz, hnd⟩ := hW
  have hA : DataW.TrodAll enc Tryd.prog W 0 (fun _ => true) true Tryd.f5.params.toList args.toList ds p := hA0
  rw [Tryd.params5] at hA hval hsz
  obtain ⟨v0, vs0, d0, ds0, p0, q0, hargs, rfl, rfl, h0, r0⟩ := trodAll_cons hA
  obtain ⟨v1, vs1, d1, ds1, p1, q1, rfl, rfl, rfl, h1, r1⟩ := trodAll_cons r0
  obtain ⟨rfl, rfl, rfl⟩ := trodAll_nil r1
  obtain rfl : args = #[v0, v1] := by cases args; simp_all
  obtain ⟨rfl, rfl⟩ := trodVars_none hV
  obtain ⟨A0, cap0, l0, rfl, hr0, hA0, hc0, hl0⟩ := bytes_open (fun _ => rfl) (fun el sp (e : d0 = .slice el sp) => sized_slice hsz (j := 0) (t := 22) (e := 5) rfl (by rw [e]; rfl) Tryd.underlying22) (hval 0 22 v0 rfl rfl) h0
  obtain ⟨A1, cap1, l1, rfl, hr1, hA1, hc1, hl1⟩ := ints_open (fun _ => rfl) (fun el sp (e : d1 = .slice el sp) => sized_slice hsz (j := 1) (t := 36) (e := 3) rfl (by rw [e]; rfl) Tryd.underlying36) (hval 1 36 v1 rfl rfl) h1
  clear hA0 hval0 hsz0
  simp only [List.append_nil] at hW'
  try simp only [List.nil_append] at hW'
  have hlt0 : ∀ x ∈ p0, x.block < W.heap.size := fun x hx => by simpa using hW'.lt x (by simp [hx])
  have hlt1 : ∀ x ∈ p1, x.block < W.heap.size := fun x hx => by simpa using hW'.lt x (by simp [hx])
  have hT := tab_of_laid hL
  refine (walk A0 cap0 l0 A1 cap1 l1 W hT hr0 hc0 hl0 hr1 hl1).mono fun e W' ⟨he, hg⟩ => ?_
  subst he
  have hB : Below W.heap.size W W' := hg.below (Nat.le_refl _) (fun _ _ e => e.elim)
  have t0 := Below.trod laidOut (by kernel_rfl) (of_decide_eq_true (by kernel_rfl)) h0 hB hlt0
  have t1 := Below.trod laidOut (by kernel_rfl) (of_decide_eq_true (by kernel_rfl)) h1 hB hlt1
  exact ⟨_, rfl, _, _, _, [], _, [], hW', trodAll_cons_mk (shut_bool Tryd.underlying4 _) trodAll_mk0, (trodAll_cons_mk t0 (trodAll_cons_mk t1 trodAll_mk0)), rfl, hB.frame _, fun h => by cases h⟩

theorem over : Rows.crcPiecesRow.holds Tryd.pinned (OpenSpec.ofChange Rows.crcPiecesSpec) :=
  OpenClaim.holds_of_wide 5 Tryd.f5 rfl rfl rfl rfl rfl rfl rfl ⟨rfl, rfl, rfl, rfl, rfl⟩ rfl rfl rfl rfl rfl (by kernel_rfl) Tryd.func5 (by kernel_rfl)
    (of_decide_eq_true (by kernel_rfl)) (by unfold Func.isWrapper; first | (rw [if_pos (by decide +kernel)]; kernel_rfl) | (rw [if_neg (by decide +kernel)]; exact ⟨rfl, rfl⟩))
    (fun os started H enc _ => lifted os started H enc)

theorem proved : Rows.CrcPiecesCardSaid :=
  Claim7.holds_tied_plain_at .later [] [.data] true Rows.crcPiecesCard.stood.harness false
    over (fun _ h => by cases h) (by kernel_rfl) (fun _ h => by cases h) crcPieces_row_tie rfl ⟨rfl, rfl⟩ (by kernel_rfl) rfl
    (fun f fn hf hfn => by
      obtain rfl : f = 5 := Option.some.inj ((show Tryd.prog.funcNamed "sutler/sutlerlaw02.CrcPieces" = some 5 by kernel_rfl).symm.trans hf) |>.symm
      obtain rfl : fn = Tryd.f5 := (Option.some.inj (Tryd.func5.symm.trans hfn)).symm
      exact ⟨by kernel_rfl, fun j t ht => by
        rw [Tryd.params5] at ht
        have hm : t ∈ [22, 36] := by simpa using Array.mem_of_getElem? ht
        have hall : ([22, 36].all fun u => !Tryd.prog.wantsStandIn u) = true := by kernel_rfl
        exact (show Tryd.prog.wantsStandIn t = false by simpa using List.all_eq_true.1 hall t hm)⟩)
    (by kernel_rfl)
#print axioms proved

end Go.Proofs.YtccagamldlpefaaDoor.crcPieces
