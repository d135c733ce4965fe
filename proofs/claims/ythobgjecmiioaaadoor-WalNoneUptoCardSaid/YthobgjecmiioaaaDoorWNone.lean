/-
  WalNone: a log on no disk, and a log that no call made, do nothing, whatever the numbers that are to be its homes. Condition: what comes in is of bulk at most 1048576 (the second form), and the program's table is what its text lays.
-/
import Derived.Test.YthobgjecmiioaaaDoorRows
import Derived.Test.YthobgjecmiioaaaDoorHdS
import Derived.Test.YthobgjecmiioaaaDoorCrcW
import Derived.Test.YthobgjecmiioaaaDoorUpto
import Derived.Test.YthobgjecmiioaaaDoorCards
import Derived.Test.YthobgjecmiioaaaDoorTie
import Derived.SevenTiedAt
import Derived.Deep.DeepHandedRow
namespace Go.Proofs.YthobgjecmiioaaaDoor.walNone
open Go.ChangeShapes Go.WideShapes Go.ChangeAt Go.RowKit hd

theorem rdI_more {w : World} {B B' : Nat} {A : Option Addr} {l : List Int} (h : RdI w B A l) (hB : B ≤ B') : RdI w B' A l := ⟨fun hne => by
  obtain ⟨blk, off, hp, hb, hc⟩ := h.1 hne
  exact ⟨blk, off, hp, by omega, hc⟩, h.2⟩
set_option maxRecDepth 100000 in
set_option maxHeartbeats 4000000 in
theorem walk (A : Option Addr) (cap : Nat) (l : List Int) (w : World) (hr : RdI w w.heap.size A l) (hn : l.length ≤ 2000000) (hT : cr.Tab w) :
    Calls Tryd.prog 4 #[.slice A l.length cap] w fun e w' => e = .returned (.bool true) ∧ Fr (fun _ => False) w w' := by
  have HW := Lib.hid (walWorks w hT)
  obtain ⟨n, hn'⟩ : ∃ n, n = l.length := ⟨_, rfl⟩
  have HA := Lib.hid (⟨hr, hn, hn'⟩ : _ ∧ _ ∧ _)
  rw [← hn']
  have hnn : n ≤ 2000000 := by omega
  clear hr hn hn' hT
  go_enter Tryd.func4, Tryd.ntmps4
  go_wp2_with fail
  refine HW.out.mono ?_
  rintro e w1 ⟨rfl, hF1⟩
  have H1 := Lib.hid (⟨HA.out.1.still hF1 (Nat.le_refl _), hF1⟩ : _ ∧ _)
  clear hF1 HW
  have HZ0 := Lib.hid (show NoW (w1.alloc (.cells #[.pointer none, .int .i64 0, .int .i64 0, .int .i64 0, .bool false] 45)) (.pointer (some ⟨w1.heap.size, 0, none⟩)) from Or.inr ⟨_, rfl, heap_alloc_new _ _⟩)
  have HFz := Lib.hid ((Fr.refl (fun _ => False) w1).alloc (.cells #[.pointer none, .int .i64 0, .int .i64 0, .int .i64 0, .bool false] 45))
  go_wp2_with fail
  refine (open_nil _ 0 1).mono ?_
  rintro e w2 ⟨rfl, hF2⟩
  have hX2 : Fr (fun _ => False) w1 w2 := HFz.out.trans hF2 (fun _ _ e => e)
  have H2 := Lib.hid (⟨(H1.out.1.still hX2 H1.out.2.size), H1.out.2.trans hX2 (fun _ _ e => e), HZ0.out.calm hF2⟩ : _ ∧ _ ∧ _)
  clear hF2 hX2 HZ0 HFz H1
  generalize w1.heap.size = gz at H2 ⊢
  go_wp2_with fail
  refine (check_nil _ 0 1).mono ?_
  rintro e w3 ⟨rfl, hF3⟩
  have H3 := Lib.hid (⟨H2.out.1.still hF3 H2.out.2.1.size, H2.out.2.1.trans hF3 (fun _ _ e => e), H2.out.2.2.calm hF3⟩ : _ ∧ _ ∧ _)
  clear hF3 H2
  go_wp2_with fail
  refine (format_nil _ 0 1).mono ?_
  rintro e w4 ⟨rfl, hF4⟩
  have H4 := Lib.hid (⟨H3.out.1.still hF4 H3.out.2.1.size, H3.out.2.1.trans hF4 (fun _ _ e => e), H3.out.2.2.calm hF4⟩ : _ ∧ _ ∧ _)
  clear hF4 H3
  have HB := Lib.hid (blocks_any w4 1 A cap l (rdI_more H4.out.1 H4.out.2.1.size) HA.out.2.1)
  rw [← HA.out.2.2] at HB
  go_wp2_with fail
  refine HB.out.mono ?_
  rintro e w5 ⟨p5, c5, rfl, _, hF5⟩
  have H5 := Lib.hid (⟨H4.out.1.still hF5 H4.out.2.1.size, H4.out.2.1.trans hF5 (fun _ _ e => e), H4.out.2.2.calm hF5⟩ : _ ∧ _ ∧ _)
  clear hF5 H4 HB
  go_wp2_with fail
  refine (commit_none (w := w5) (v := .pointer none) (Or.inl rfl) _).mono ?_
  rintro e w' ⟨rfl, rfl⟩
  have HB := Lib.hid (blocks_any w5 1 A cap l (rdI_more H5.out.1 H5.out.2.1.size) HA.out.2.1)
  rw [← HA.out.2.2] at HB
  go_wp2_with fail
  refine HB.out.mono ?_
  rintro e w6 ⟨p6, c6, rfl, _, hF6⟩
  have H6 := Lib.hid (⟨H5.out.2.1.trans hF6 (fun _ _ e => e), H5.out.2.2.calm hF6⟩ : _ ∧ _)
  clear hF6 H5 HB
  go_wp2_with fail
  refine (commit_none H6.out.2 _).mono ?_
  rintro e w' ⟨rfl, rfl⟩
  go_wp2_with fail
  refine (turn_none (w := w6) (v := .pointer none) (Or.inl rfl)).mono ?_
  rintro e w' ⟨rfl, rfl⟩
  go_wp2_with fail
  refine (turn_none H6.out.2).mono ?_
  rintro e w' ⟨rfl, rfl⟩
  go_wp2_with fail
  refine (home_none (w := w6) (v := .pointer none) (Or.inl rfl)).mono ?_
  rintro e w' ⟨rfl, rfl⟩
  go_wp2_with fail
  refine (home_none H6.out.2).mono ?_
  rintro e w' ⟨rfl, rfl⟩
  go_wp2_with fail
  refine (cap_none (w := w6) (v := .pointer none) (Or.inl rfl)).mono ?_
  rintro e w' ⟨rfl, rfl⟩
  go_wp2_with fail
  refine (cap_none H6.out.2).mono ?_
  rintro e w' ⟨rfl, rfl⟩
  go_wp2_with fail
  go_ret
  exact ⟨rfl, H6.out.1⟩

/-! ### the row -/
theorem own : ownKnob Tryd.prog.godebug = none := by kernel_rfl
theorem laidOut : laidOutB Tryd.prog = true := by kernel_rfl
theorem witness_row (os : Os) {H : Type} (enc : TypeId × Value → H) :
    (Rows.OpenSpec.upto Rows.walNoneSpec).preRow enc Tryd.prog Tryd.f4 [] false cr.laidL ((World.doorLaid Tryd.prog 400 os).forCall (fun _ _ => 0) ⟨#[], #[.slice none 0 0], []⟩).memory #[.slice none 0 0] := by
  have hw : (DataW.whole enc Tryd.prog ((World.doorLaid Tryd.prog 400 os).forCall (fun _ _ => 0) ⟨#[], #[.slice none 0 0], []⟩).memory Tryd.f4.params.toList (Rows.OpenSpec.upto Rows.walNoneSpec).vars false #[Value.slice none 0 0].toList 8).map (fun x => (x.1, x.2.1)) =
      some ([.nil], []) := by kernel_rfl
  obtain ⟨⟨x1, x2, x3⟩, hx, hx1⟩ := Option.map_eq_some_iff.1 hw
  simp only [Prod.mk.injEq] at hx1
  obtain ⟨rfl, rfl⟩ := hx1
  exact OpenSpec.preRow_of_cond 8 hx (by kernel_rfl) (fun k hk => by cases hk; rfl) (by kernel_rfl) (cr.door_met os _)
set_option maxRecDepth 100000 in
theorem lifted (os : Os) (started : os.Started) (H : Type) (enc : TypeId × Value → H) (F : Stop.Interp) :
    ReturnsInHanded {} Tryd.checked os 4 .any ((Rows.OpenSpec.upto Rows.walNoneSpec).preRow enc Tryd.prog Tryd.f4 [] false cr.laidL)
      (((Rows.OpenSpec.upto Rows.walNoneSpec).at F).post enc Tryd.prog Tryd.f4 false true false false) := by
  refine returnsInHanded_of_row (C := Tryd.checked) (s := Rows.OpenSpec.upto Rows.walNoneSpec) own started (by kernel_rfl) Tryd.func4
    (witness_row_at (enc := enc) (C := Tryd.checked) false (World.doorLaid Tryd.prog 400 os) #[.slice none 0 0] rfl (by kernel_rfl) (by kernel_rfl) (by kernel_rfl) (witness_row os enc)) ?_
  intro W base args ds gs before hval0 hW _ hcond0 hsz0 hL _ _
  have hk0 : Rows.uptoSmall H (ds ++ gs) = true := hcond0 _ rfl
  have hval : ∀ (j : Nat) t v, Tryd.f4.params[j]? = some t → args[j]? = some v → Value.okWide Tryd.prog W .any base t v := hval0
  clear hsz0 hcond0
  have hW' := hW
  obtain ⟨p, q, hA0, hV, rfl, hfz, hnd⟩ := hW
  have hA : DataW.TrodAll enc Tryd.prog W 0 (fun _ => true) true Tryd.f4.params.toList args.toList ds p := hA0
  rw [Tryd.params4] at hA hval
  obtain ⟨v0, vs0, d0, ds0, p0, q0, hargs, rfl, rfl, h0, r0⟩ := trodAll_cons hA
  obtain ⟨rfl, rfl, rfl⟩ := trodAll_nil r0
  obtain rfl : args = #[v0] := by cases args; simp_all
  obtain ⟨rfl, rfl⟩ := trodVars_none hV
  simp only [List.append_nil] at hk0
  obtain ⟨A0, cap0, l0, rfl, hr0, _, _, hl0⟩ := ints_openN (N := 1048576) (fun _ => rfl) (fun el sp (e : d0 = .slice el sp) => bulk_slice hk0 (by rw [e]; simp)) (hval 0 22 v0 rfl rfl) h0
  clear hA0 hval0
  simp only [List.append_nil] at hW'
  have hlt0 : ∀ x ∈ p0, x.block < W.heap.size := fun x hx => by simpa using hW'.lt x (by simp [hx])
  refine (walk A0 cap0 l0 W hr0 (by omega) (cr.tab_of_laid hL)).mono fun e W' ⟨he, hg⟩ => ?_
  subst he
  have hB : Below W.heap.size W W' := hg.below (Nat.le_refl _) (fun _ _ e => e.elim)
  have t0 := Below.trod laidOut (by kernel_rfl) (of_decide_eq_true (by kernel_rfl)) h0 hB hlt0
  exact ⟨_, rfl, _, _, _, [], _, [], hW', trodAll_cons_mk (shut_bool Tryd.underlying4 _) trodAll_mk0, trodAll_cons_mk t0 trodAll_mk0, rfl, hB.frame _, fun h => by cases h⟩

theorem over : Rows.walNoneUptoRow.holds Tryd.pinned (Rows.OpenSpec.upto Rows.walNoneSpec) :=
  OpenClaim.holds_of_cond 4 Tryd.f4 rfl rfl rfl rfl rfl rfl rfl ⟨rfl, rfl, rfl, rfl, rfl⟩ rfl rfl rfl rfl rfl (by kernel_rfl) Tryd.func4 (by kernel_rfl)
    (of_decide_eq_true (by kernel_rfl)) (by unfold Func.isWrapper; first | (rw [if_pos (by decide +kernel)]; kernel_rfl) | (rw [if_neg (by decide +kernel)]; exact ⟨rfl, rfl⟩))
    (fun os started H enc _ F => by rw [OpenClaim.pre_eq_preRow]; exact lifted os started H enc F)

theorem proved : Rows.WalNoneUptoCardSaid :=
  Claim7.holds_tied_plain_at .later [] [.data] true Rows.walNoneUptoCard.stood.harness false
    over (fun _ h => by cases h) (by kernel_rfl) (fun _ h => by cases h) walNoneUpto_row_tie rfl ⟨rfl, rfl⟩ (by kernel_rfl) rfl
    (fun f fn hf hfn => by
      obtain rfl : f = 4 := Option.some.inj ((show Tryd.prog.funcNamed "sutler/sutlerlaw04.WalNone" = some 4 by kernel_rfl).symm.trans hf) |>.symm
      obtain rfl : fn = Tryd.f4 := (Option.some.inj (Tryd.func4.symm.trans hfn)).symm
      exact ⟨by kernel_rfl, fun j t ht => by
        rw [Tryd.params4] at ht
        have hm : t ∈ [22] := by simpa using Array.mem_of_getElem? ht
        have hall : ([22].all fun u => !Tryd.prog.wantsStandIn u) = true := by kernel_rfl
        exact (show Tryd.prog.wantsStandIn t = false by simpa using List.all_eq_true.1 hall t hm)⟩)
    (by kernel_rfl)
#print axioms proved

end Go.Proofs.YthobgjecmiioaaaDoor.walNone
