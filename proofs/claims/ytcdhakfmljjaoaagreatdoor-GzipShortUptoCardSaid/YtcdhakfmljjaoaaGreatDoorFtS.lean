/-
  The document's span, low, again.
-/
import Derived.Test.YtcdhakfmljjaoaaGreatDoorFtR
import Derived.Test.YtcdhakfmljjaoaaGreatDoorJN
import Derived.Laws.AppendOwnNone
namespace Go.Proofs.YtcdhakfmljjaoaaGreatDoor.ft
set_option maxRecDepth 100000
open Go.RowKit Go.Maps Go.Proofs.YtcdhakfmljjaoaaGreatDoor.fl Go.Proofs.YtcdhakfmljjaoaaGreatDoor.cd
set_option maxRecDepth 100000

set_option maxHeartbeats 1000000 in
theorem rspan (w : World) (k : Nat) (hk : k ≤ 28) : Calls Tryz.prog 67 #[.int .i64 (k : Int)] w fun e w' => e = .returned (.tuple #[.int .i64 (spanB k : Nat), .int .i64 (spanX k : Nat)]) ∧ w = w' := by
  by_cases h1 : k < 8
  · have HV := Lib.hid (⟨by unfold spanB; rw [if_pos h1], by unfold spanX; rw [if_pos h1]⟩ : spanB k = 3 + k ∧ spanX k = 0)
    rw [HV.out.1, HV.out.2]
    have h1' : (k : Int) < 8 := by omega
    have hw : IntKind.i64.wrap (3 + (k : Int)) = ((3 + k : Nat) : Int) := by rw [IntWalk.i64_in _ (by omega)]; omega
    go_enter Tryz.func67, Tryz.ntmps67
    go_wp2_with fail
    go_ret2
    exact ⟨by simp, rfl⟩
  · by_cases h2 : k = 28
    · subst h2
      have HV := Lib.hid (⟨rfl, rfl⟩ : spanB 28 = 258 ∧ spanX 28 = 0)
      rw [HV.out.1, HV.out.2]
      go_enter Tryz.func67, Tryz.ntmps67
      go_wp2_with fail
      go_ret2
      exact ⟨rfl, rfl⟩
    · obtain ⟨q, hq⟩ : ∃ q, q = k / 4 - 1 := ⟨_, rfl⟩
      obtain ⟨r, hr⟩ : ∃ r, r = k % 4 := ⟨_, rfl⟩
      have HV := Lib.hid (⟨by unfold spanB; rw [if_neg h1, if_neg h2, hq, hr], by unfold spanX; rw [if_neg h1, if_neg h2, hq]⟩ : spanB k = 3 + (4 + r) * 2 ^ q ∧ spanX k = q)
      rw [HV.out.1, HV.out.2]
      have hq1 : (k : Int) / 4 = ((q + 1 : Nat) : Int) := by omega
      have hq2 : (k : Int).tdiv 4 = ((q + 1 : Nat) : Int) := by rw [Int.tdiv_eq_ediv_of_nonneg (by omega)]; exact hq1
      have hr1 : (k : Int) % 4 = (r : Int) := by omega
      have hr2 : (k : Int).tmod 4 = (r : Int) := by rw [Int.tmod_eq_emod_of_nonneg (by omega)]; exact hr1
      have hq5 : q ≤ 6 := by omega
      have hr4 : r ≤ 3 := by omega
      have h1' : ¬ (k : Int) < 8 := by omega
      have h2' : ¬ (k : Int) = 28 := by omega
      have hqq : ((q + 1 : Nat) : Int) - 1 = (q : Int) := by omega
      clear hq hr
      go_enter Tryz.func67, Tryz.ntmps67
      go_wp2_with fail
      go_loop [6, 7] (fun v i => ∃ (j x : Nat), j ≤ q ∧ x ≤ 64 ∧ i = .int .i64 j ∧ v = .int .i64 x ∧ Hid (x = 2 ^ j)) (fun _ i => q - (intOf i).toNat)
      case atStart => exact ⟨0, 1, Nat.zero_le _, by omega, rfl, rfl, (show _ = _ from rfl)⟩
      case round =>
        obtain ⟨j, x, hj, hx, rfl, rfl, HX⟩ := hrel
        by_cases hlt : j < q
        · have HN := Lib.hid (show 2 * x = 2 ^ (j + 1) by rw [HX.out, Nat.pow_succ, Nat.mul_comm])
          have h64 : 2 * x ≤ 64 := by
            rw [HN.out]
            have : 2 ^ (j + 1) ≤ 2 ^ 6 := Nat.pow_le_pow_right (by omega) (by omega)
            exact this
          have hxw : IntKind.i64.wrap (2 * (x : Int)) = ((2 * x : Nat) : Int) := by rw [IntWalk.i64_in _ (by omega)]; omega
          go_wp2_with fail
          go_round
          case rel => exact ⟨j + 1, 2 * x, by omega, h64, by go_num, by go_num, HN⟩
          case measure => simp [intOf]; omega
        · obtain rfl : j = q := by omega
          have hb : (4 + r) * x ≤ 448 := by
            have := Nat.mul_le_mul (show 4 + r ≤ 7 by omega) hx
            omega
          obtain ⟨y, hy⟩ : ∃ y, y = (4 + r) * x := ⟨_, rfl⟩
          rw [← hy] at hb
          have HY := Lib.hid (show (3 : Int) + (4 + (r : Int)) * 2 ^ j = 3 + (y : Int) by rw [hy, HX.out]; push_cast; rfl)
          have hm1 : IntKind.i64.wrap (4 + (r : Int)) = 4 + (r : Int) := IntWalk.i64_in _ (by omega)
          have hm0 : (4 + (r : Int)) * (x : Int) = (y : Int) := by rw [hy]; push_cast; rfl
          have hm2 : IntKind.i64.wrap ((4 + (r : Int)) * (x : Int)) = (y : Int) := by rw [hm0]; exact IntWalk.i64_in _ (by omega)
          have hm3 : IntKind.i64.wrap (3 + (y : Int)) = 3 + (y : Int) := IntWalk.i64_in _ (by omega)
          clear hy
          go_wp2_with fail
          go_ret2
          rw [HY.out]
          exact ⟨rfl, rfl⟩
set_option maxHeartbeats 1000000 in
theorem rlow11 (w : World) (n k : Int) (hn : n ≤ 9223372036854775807) : Calls Tryz.prog 68 #[.int .i64 n, .int .i64 k] w (NewL w (lowL n k)) := by
  have HL := Lib.hid (rlow w n k hn)
  obtain ⟨L, hL⟩ : ∃ L, L = lowL n k := ⟨_, rfl⟩
  rw [← hL] at HL ⊢
  obtain ⟨m, hm⟩ : ∃ m, m = L.length := ⟨_, rfl⟩
  have HM := Lib.hid hm
  clear hL hn hm
  go_enter Tryz.func68, Tryz.ntmps68
  go_wp2_with fail
  refine HL.out.mono ?_
  rintro e w1 ⟨A, cap, rfl, ho, hF⟩
  have HO := Lib.hid (⟨ho, hF⟩ : _ ∧ _)
  rw [← HM.out]
  clear ho hF HL
  go_wp2_with fail
  go_ret
  exact ⟨A, cap, by rw [← HM.out]; rfl, HO.out⟩
/-- Numbers that a slice holds, wherever. -/
def SrcI (w : World) (A : Option Addr) (c : Nat) (L : List Int) : Prop := (A = none → L = [] ∧ c = 0) ∧ ∀ ad, A = some ad → ∀ j u, (is L)[j]? = some u → w.cell? (ad.add j) = some u
theorem srcI_own {w : World} {B : Nat} {A : Option Addr} {cap : Nat} {L : List Int} (h : OwnI w B (.slice A L.length cap) L) : SrcI w A cap L := by
  rcases h.2 with ⟨e, h0⟩ | ⟨g, c, cur, e, hg, hh, r⟩
  · simp only [Value.slice.injEq] at e
    obtain ⟨rfl, _, rfl⟩ := e
    exact ⟨fun _ => ⟨List.eq_nil_of_length_eq_zero h0, rfl⟩, fun ad e => by cases e⟩
  · cases e
    refine ⟨(fun e => by cases e), fun ad e j u hu => ?_⟩
    cases e
    rw [is_get] at hu
    obtain ⟨x, hx, rfl⟩ := Option.map_eq_some_iff.1 hu
    obtain ⟨g', e', _, _, hc⟩ := h.cell (by rintro rfl; simp at hx)
    cases e'
    rw [add_plain, Nat.zero_add]
    exact hc j x hx
theorem srcI_rdT {w : World} {lo hi : Nat} {A : Option Addr} {c : Nat} {L : List Int} (h : RdT w lo hi A L) (hne : L ≠ []) : SrcI w A c L := by
  obtain ⟨blk, off, e, _, _, hc⟩ := h hne
  refine ⟨(fun e2 => by rw [e] at e2; cases e2), fun ad e2 j u hu => ?_⟩
  rw [e] at e2
  cases e2
  rw [is_get] at hu
  obtain ⟨x, hx, rfl⟩ := Option.map_eq_some_iff.1 hu
  rw [add_plain]
  exact hc j x hx
theorem srcI_block {w : World} {g c : Nat} {t : TypeId} {L : List Int} (h : w.heap[g]? = some (.cells (is L).toArray t (0, 0))) : SrcI w (some ⟨g, 0, none⟩) c L := ⟨(fun e => by cases e), fun ad e j u hu => by
  cases e
  rw [add_plain, cellAt h, List.getElem?_toArray, Nat.zero_add]
  exact hu⟩
/-- Bits of the call's own. -/
def OwL (w0 w : World) (v : Value) (L : List Int) : Prop := w.ownsRow w0.heap.size 3 1 v L.length (is L) ∧ Fr (fun _ => False) w0 w
theorem OwL.still {w0 w w' : World} {v : Value} {L : List Int} (h : OwL w0 w v L) (hF : Fr (fun _ => False) w w') : OwL w0 w' v L := ⟨OwnI.kept h.1 hF, h.2.trans hF (fun _ _ e => e)⟩
/-- Bits are appended to the call's own. -/
theorem wpList_appI {ops : Array Oper} {rest : List Oper} {o : Oper} {a : Act} {w w0 : World} {Q : Exit → Act → World → Prop} (hgd : o.guard = none) (s x : Operand)
    (ho : o.op = .call { callee := .builtin .append, args := #[s, x], argTypes := #[66, 66] }) (v : Value) (L : List Int) (hs : a.eval s = v) (hown : OwL w0 w v L)
    (sA : Option Addr) (m c : Nat) (L2 : List Int) (hm : m = L2.length) (hx : a.eval x = .slice sA m c) (hsrc : SrcI w sA c L2) (hb : L.length + m ≤ 1000000)
    (h : ∀ v' w', OwL w0 w' v' (L ++ L2) → wpList Tryz.prog ops Q rest (a.put o.dst v') w') : wpList Tryz.prog ops Q (o :: rest) a w := by
  obtain ⟨i0, hi, hz0, hz1, hz2⟩ := info_parts infoI
  cases sA with
  | none =>
    obtain ⟨rfl, rfl⟩ := hsrc.1 rfl
    obtain rfl : m = 0 := hm
    refine wpList_append_own_none hgd s x 66 ho w0.heap.size 3 i0 1 Tryz.underlying66 hi v L.length (is L) hs hown.1 hx ?_
    exact h v w (by rw [List.append_nil]; exact hown)
  | some ad =>
    refine wpList_append_own w hgd s x 66 ho w0.heap.size 3 i0 (.int .i64 0) 1 8 Tryz.underlying66 hi hz0 hz1 hz2 rfl (by omega) v L.length (is L) hs hown.1 ad m c (is L2) hx (by rw [is_length, hm, Nat.mul_one]) (hsrc.2 ad rfl) (is_one L2) (by unfold maxLen; omega) (by omega) hown.2.size ?_
    intro v' w' h1 h2 _
    refine h v' w' ⟨?_, hown.2.grown h2 (fun q e => own_geI hown.1 e)⟩
    rw [List.length_append, is_append, ← hm]
    exact h1
theorem fix_get {s : Nat} (h : s < 288) : (wordsL fixI)[s]? = some (wordB fixI s) := wordsL_get (by show s < 288; exact h)
theorem fix_word : ∀ s, s < 288 → 7 ≤ (wordB fixI s).length ∧ (wordB fixI s).length ≤ 9 := by decide +kernel
/-- The fixed code's words, in a slice that the call reads. -/
structure FixW (w : World) (A : Option Addr) (hi : Nat) : Prop where
  rd : ∃ lo, RdW w lo hi A (wordsL fixI)
  le : hi ≤ w.heap.size
theorem FixW.still {w w' : World} {A : Option Addr} {hi : Nat} (h : FixW w A hi) (hF : Fr (fun _ => False) w w') : FixW w' A hi := by
  obtain ⟨lo, h1⟩ := h.rd
  exact ⟨⟨lo, h1.still hF h.le⟩, Nat.le_trans h.le hF.size⟩
theorem FixW.at_ {w : World} {A : Option Addr} {hi : Nat} (h : FixW w A hi) {s : Nat} (hs : s < 288) : ∃ g A' c m, A = some ⟨g, 0, none⟩ ∧ w.cell? ⟨g, s, none⟩ = some (.slice A' m c) ∧ Hid (m = (wordB fixI s).length ∧ SrcI w A' c (wordB fixI s)) ∧ m ≤ 9 := by
  obtain ⟨lo, h1⟩ := h.rd
  obtain ⟨g, A', c, e, _, _, h2, h3⟩ := h1.at_ (fix_get hs)
  have h4 := fix_word s hs
  exact ⟨g, A', c, _, e, h2, ⟨rfl, srcI_rdT h3 (by rintro e; rw [e] at h4; simp at h4)⟩, h4.2⟩
set_option maxHeartbeats 2000000 in
theorem ragain (w : World) (A : Option Addr) (cap hi : Nat) (n : Nat) (hW : FixW w A hi) (h3 : 3 ≤ n) (h258 : n ≤ 258) :
    Calls Tryz.prog 46 #[.int .i64 (n : Int), .slice A 288 cap] w (NewL w (againB rls n)) := by
  have HW := Lib.hid hW
  have HS := Lib.hid (fun (k : Nat) (hk : k ≤ 28) => rspan w k hk)
  have HLW := Lib.hid (fun (wx : World) (x k : Int) (hx : x ≤ 9223372036854775807) => rlow11 wx x k hx)
  clear hW
  go_enter Tryz.func46, Tryz.ntmps46
  go_wp2_with fail
  go_loop [5, 6, 7] (fun i _ _ => ∃ k : Nat, k ≤ 28 ∧ i = .int .i64 k ∧ Hid (rls n = pkN n k)) (fun i _ _ => (intOf i).toNat)
  case atStart => exact ⟨28, Nat.le_refl _, rfl, (show _ = _ from rfl)⟩
  case round =>
    obtain ⟨k, hk, rfl, HP⟩ := hrel
    have HSK := Lib.hid (HS.out k hk)
    obtain ⟨sb, hsb⟩ : ∃ sb, sb = spanB k := ⟨_, rfl⟩
    obtain ⟨sx, hsx⟩ : ∃ sx, sx = spanX k := ⟨_, rfl⟩
    have HSB := Lib.hid (⟨hsb, hsx⟩ : _ ∧ _)
    rw [← hsb, ← hsx] at HSK
    have hk0 : (0 : Int) ≤ (k : Int) := by omega
    clear hsb hsx
    by_cases h1 : sb ≤ n ∧ (k = 28 ∨ n ≠ 258)
    · have hpk : rls n = k := by rw [HP.out]; exact pkN_take (by rw [← HSB.out.1]; exact h1.1) h1.2
      have hsx5 : sx ≤ 5 := by rw [HSB.out.2]; exact span_small k hk
      obtain ⟨LW, hLW⟩ : ∃ LW, LW = lowL ((n - sb : Nat) : Int) (sx : Int) := ⟨_, rfl⟩
      have hlow : LW = lowI ((n - sb : Nat) : Int) sx := by
        rw [hLW]
        unfold lowL
        rw [if_pos ((mayB_iff _ _).2 ⟨by omega, by omega, by omega⟩), Int.toNat_natCast]
      have hll : LW.length ≤ 5 := by rw [hlow, lowI_length]; exact hsx5
      have HE := Lib.hid (show ([] ++ wordB fixI (257 + k)) ++ LW ++ [0, 0, 0, 0, 0] = againB rls n by
        unfold againB
        rw [hpk, ← HSB.out.1, ← HSB.out.2, hlow, List.nil_append, List.append_assoc])
      have HL3 := Lib.hid (fun wx => HLW.out wx ((n - sb : Nat) : Int) (sx : Int) (by omega))
      rw [← hLW] at HL3
      obtain ⟨lw, hlw⟩ : ∃ lw, lw = LW.length := ⟨_, rfl⟩
      have HLL := Lib.hid hlw
      rw [← hlw] at hll
      obtain ⟨g, A', c, m, rfl, hcell, HA, hm9⟩ := (HW.out.still ((Fr.refl _ w).alloc (.cells #[] 3))).at_ (s := 257 + k) (by omega)
      have HO1 := Lib.hid (show OwL w (w.alloc (.cells #[] 3)) (.slice (some ⟨w.heap.size, 0, none⟩) 0 0) [] from ⟨ownI_nil w, (Fr.refl _ w).alloc _⟩)
      have hi1 : IntKind.i64.wrap (257 + (k : Int)) = ((257 + k : Nat) : Int) := by rw [IntWalk.i64_in _ (by omega)]; omega
      have hi2 : (0 : Int) ≤ ((257 + k : Nat) : Int) := by omega
      have hi3 : ((257 + k : Nat) : Int) < 288 := by omega
      have hs1 : IntKind.i64.wrap ((n : Int) - (sb : Int)) = ((n - sb : Nat) : Int) := by rw [IntWalk.i64_in _ (by omega)]; omega
      have hsn : (sb : Int) ≤ (n : Int) := by omega
      have HMM := Lib.hid HA.out.1
      clear hpk hLW hlow HP hlw
      have hk28 : k = 28 ∨ (((k : Int) == 28) = false ∧ ((n : Int) != 258) = true) := by
        by_cases e : k = 28
        · exact Or.inl e
        · right
          refine ⟨by rw [beq_eq_false_iff_ne]; omega, bne_iff_ne.2 ?_⟩
          rcases h1.2 with h | h
          · exact absurd h e
          · omega
      clear h1
      rcases hk28 with rfl | ⟨hb1, hb2⟩
      all_goals
        go_wp2_with (first
          | (go_at_call 67; refine HSK.out.mono ?_; rintro e w' ⟨rfl, rfl⟩)
          | (go_at_call 68; refine (HL3.out _).mono ?_; rintro e w3 ⟨A3, c3, rfl, ho3, hF3⟩; have H3 := Lib.hid (⟨H2.out.still hF3, srcI_own ho3⟩ : _ ∧ _); rw [← HLL.out]; clear ho3 hF3)
          | (at_builtin; refine wpList_appI rfl (.tmp 28) (.tmp 33) rfl _ [] rfl HO1.out A' m c _ HA.out.1 rfl HA.out.2 (by show 0 + m ≤ 1000000; omega) ?_; intro v2 w2 ho2; have H2 := Lib.hid ho2; clear ho2)
          | (at_builtin; refine wpList_appI rfl (.tmp 34) (.tmp 39) rfl _ _ rfl H3.out.1 A3 lw c3 LW HLL.out rfl H3.out.2 (by rw [List.length_append, ← HMM.out]; show 0 + m + lw ≤ 1000000; omega) ?_; intro v4 w4 ho4; have H4 := Lib.hid (ho4.still ((Fr.refl _ w4).alloc (.cells #[.int .i64 0, .int .i64 0, .int .i64 0, .int .i64 0, .int .i64 0] 3))); have HS4 := Lib.hid (srcI_block (c := 5) (L := [0, 0, 0, 0, 0]) (heap_alloc_new w4 (.cells #[.int .i64 0, .int .i64 0, .int .i64 0, .int .i64 0, .int .i64 0] 3))); clear ho4)
          | (at_builtin; refine wpList_appI rfl (.tmp 40) (.tmp 41) rfl _ _ rfl H4.out (some ⟨w4.heap.size, 0, none⟩) 5 5 [0, 0, 0, 0, 0] rfl rfl HS4.out (by rw [List.length_append, List.length_append, ← HMM.out, ← HLL.out]; show 0 + m + lw + 5 ≤ 1000000; omega) ?_; intro v5 w5 ho5; have H5 := Lib.hid ho5; clear ho5))
        go_ret
        have h5 := H5.out
        rw [HE.out] at h5
        obtain ⟨A9, c9, rfl, ho9⟩ := OwnI.shape rfl rfl h5.1
        exact ⟨A9, c9, rfl, ho9, h5.2⟩
    · have hk1 : 1 ≤ k := by
        apply Decidable.byContradiction
        intro hc
        obtain rfl : k = 0 := by omega
        apply h1
        have e0 : sb = 3 := by rw [HSB.out.1]; rfl
        refine ⟨by omega, Or.inr fun e => ?_⟩
        subst e
        have := HP.out
        rw [rls_258] at this
        cases this
      obtain ⟨j, hj⟩ : ∃ j, k = j + 1 := ⟨k - 1, by omega⟩
      have HN := Lib.hid (show rls n = pkN n j by
        rw [HP.out, hj]
        exact pkN_less (by rw [← hj, ← HSB.out.1]; exact h1))
      have hsw : IntKind.i64.wrap ((k : Int) - 1) = (j : Int) := by rw [IntWalk.i64_in _ (by omega)]; omega
      have hjk : j < k := by omega
      have hj28 : j ≤ 28 := by omega
      clear hj hk1
      by_cases h2 : sb ≤ n
      · have h3 : k ≠ 28 ∧ n = 258 := by
          refine ⟨fun e => h1 ⟨h2, Or.inl e⟩, ?_⟩
          apply Decidable.byContradiction
          intro e
          exact h1 ⟨h2, Or.inr e⟩
        have hb1 : ((k : Int) == 28) = false := by rw [beq_eq_false_iff_ne]; omega
        have hb2 : ((n : Int) != 258) = false := by
          have e : n = 258 := h3.2
          rw [e]
          rfl
        have h2' : (sb : Int) ≤ (n : Int) := by omega
        clear h1 h2 h3
        go_wp2_with (go_at_call 67; refine HSK.out.mono ?_; rintro e w' ⟨rfl, rfl⟩)
        go_round
        case rel => exact ⟨j, by omega, by go_num, HN⟩
        case measure => simp [intOf] <;> omega
      · have h2' : ¬ (sb : Int) ≤ (n : Int) := by omega
        clear h1 h2
        go_wp2_with (go_at_call 67; refine HSK.out.mono ?_; rintro e w' ⟨rfl, rfl⟩)
        go_round
        case rel => exact ⟨j, by omega, by go_num, HN⟩
        case measure => simp [intOf] <;> omega
end Go.Proofs.YtcdhakfmljjaoaaGreatDoor.ft
