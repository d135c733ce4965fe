/-
  DiskSynced: what was synced is there behind any crash, whatever the calls and the picks. No condition.
-/
import Derived.Test.YtbmbibepcnpngaaRows
import Derived.Test.YtbmbibepcnpngaaOpen
import Derived.ProofKit
namespace Go.Proofs.Ytbmbibepcnpngaa.diskSynced
open Go.ChangeShapes Go.WideShapes Go.ChangeAt Go.RowKit

/-- A disk whose latest bytes are I. -/
def SA (w0 : World) (pb N : Nat) (I : Nat → List UInt8) (w : World) : Prop :=
  ∃ bv bt B c ops V T, Good w pb bv bt N B c ops (-1) false V T ∧ B ≤ 500 ∧ (w0.heap.size ≤ pb ∧ w0.heap.size ≤ bv ∧ w0.heap.size ≤ bt) ∧ Fr (fun _ => False) w0 w ∧ (∀ k : Nat, k < N → V k (T k) = I k)

/-- .. with a slice of these bytes beside it, in block g. -/
def SAg (w0 : World) (pb N g : Nat) (I : Nat → List UInt8) (w : World) : Prop :=
  ∃ bv bt B c ops V T, Good w pb bv bt N B c ops (-1) false V T ∧ B ≤ 500 ∧ (w0.heap.size ≤ pb ∧ w0.heap.size ≤ bv ∧ w0.heap.size ≤ bt) ∧ Fr (fun _ => False) w0 w ∧ (∀ k : Nat, k < N → V k (T k) = I k) ∧ Has w g (gath I N) ∧ (g ≠ pb ∧ g ≠ bv ∧ g ≠ bt)

/-- .. and sure, too: nothing was written since. -/
def SB (w0 : World) (pb N g : Nat) (I : Nat → List UInt8) (w : World) : Prop :=
  ∃ bv bt B ops V, Good w pb bv bt N B 0 ops (-1) false V (fun _ => 0) ∧ (w0.heap.size ≤ pb ∧ w0.heap.size ≤ bv ∧ w0.heap.size ≤ bt) ∧ Fr (fun _ => False) w0 w ∧ (∀ k : Nat, k < N → V k 0 = I k) ∧ Has w g (gath I N) ∧ (g ≠ pb ∧ g ≠ bv ∧ g ≠ bt)

theorem SA.calm {w0 w w' : World} {pb N : Nat} {I : Nat → List UInt8} (h : SA w0 pb N I w) (hF : Fr (fun _ => False) w w') : SA w0 pb N I w' := by
  obtain ⟨bv, bt, B, c, ops, V, T, hg, hB, h1, h2, h3⟩ := h
  exact ⟨bv, bt, B, c, ops, V, T, hg.calm hF, hB, h1, h2.trans hF (fun _ _ e => e), h3⟩
theorem SB.calm {w0 w w' : World} {pb N g : Nat} {I : Nat → List UInt8} (h : SB w0 pb N g I w) (hF : Fr (fun _ => False) w w') : SB w0 pb N g I w' := by
  obtain ⟨bv, bt, B, ops, V, hg, h1, h2, h3, h4, h5⟩ := h
  exact ⟨bv, bt, B, ops, V, hg.calm hF, h1, h2.trans hF (fun _ _ e => e), h3, h4.calm hF, h5⟩
theorem SB.has {w0 w : World} {pb N g : Nat} {I : Nat → List UInt8} (h : SB w0 pb N g I w) : Has w g (gath I N) := by
  obtain ⟨_, _, _, _, _, _, _, _, _, h4, _⟩ := h
  exact h4
theorem SB.fr {w0 w : World} {pb N g : Nat} {I : Nat → List UInt8} (h : SB w0 pb N g I w) : Fr (fun _ => False) w0 w := by
  obtain ⟨_, _, _, _, _, _, _, h2, _⟩ := h
  exact h2

theorem gath_congr {G G' : Nat → List UInt8} : ∀ {N : Nat}, (∀ k, k < N → G k = G' k) → gath G N = gath G' N
  | 0, _ => rfl
  | n + 1, h => by
    rw [gath, gath, gath_congr (fun k hk => h k (by omega)), h n (by omega)]

/-- A new slice of all sectors' bytes. -/
def NewImg (w : World) (N : Nat) (I : Nat → List UInt8) (e : Ending) (w' : World) : Prop :=
  ∃ g cap, e = .returned (.slice (some ⟨g, 0, none⟩) (N * 256) cap) ∧ Has w' g (gath I N) ∧ (gath I N).length = N * 256 ∧ Fr (fun _ => False) w w'

theorem img_of {w w' : World} {N : Nat} {G I : Nat → List UInt8} (hl : ∀ k, k < N → (G k).length = 256) (hI : ∀ k, k < N → G k = I k) {e : Ending} (h : NewReads w (gath G N) e w') : NewImg w N I e w' := by
  obtain ⟨g, cap, rfl, h1, h2, h3, h4⟩ := h
  have hlen := gath_length hl N (Nat.le_refl _)
  rw [gath_congr hI] at hlen h3 ⊢
  exact ⟨g, cap, by rw [hlen], ⟨h2, h3⟩, hlen, h4⟩

theorem SA.image {w0 w : World} {pb N : Nat} {I : Nat → List UInt8} (h : SA w0 pb N I w) : Calls Try.prog 33 #[.pointer (some ⟨pb, 0, none⟩)] w fun e w' => ∃ g cap, e = .returned (.slice (some ⟨g, 0, none⟩) (N * 256) cap) ∧ (gath I N).length = N * 256 ∧ SAg w0 pb N g I w' := by
  obtain ⟨bv, bt, B, c, ops, V, T, hg, hB, h1, h2, h3⟩ := id h
  have hn1 := hg.n1
  have hl := hg.lt
  refine (image_good hg).mono fun e w' hr => ?_
  have hlen := gath_length (N := N) (G := fun k => V k (T k)) (fun k hk => hg.len (by constructor <;> omega) (hg.turnI (by constructor <;> omega))) N (Nat.le_refl _)
  obtain ⟨g, cap, rfl, a1, a2, a3, hF⟩ := hr
  rw [gath_congr h3] at hlen a3 ⊢
  exact ⟨g, cap, by rw [hlen], hlen, bv, bt, B, c, ops, V, T, hg.calm hF, hB, h1, h2.trans hF (fun _ _ e => e), h3, ⟨a2, a3⟩, by omega, by omega, by omega⟩

theorem SB.image {w0 w : World} {pb N g : Nat} {I : Nat → List UInt8} (h : SB w0 pb N g I w) : Calls Try.prog 33 #[.pointer (some ⟨pb, 0, none⟩)] w fun e w' => NewImg w N I e w' ∧ SB w0 pb N g I w' := by
  obtain ⟨bv, bt, B, ops, V, hg, h1, h2, h3, _, _⟩ := id h
  have hn1 := hg.n1
  refine (image_good hg).mono fun e w' hr => ?_
  have hi := img_of (fun k hk => hg.len (by constructor <;> omega) I64.zero) h3 hr
  obtain ⟨_, _, _, _, _, hF⟩ := id hi
  exact ⟨hi, h.calm hF⟩

theorem SB.sure {w0 w : World} {pb N g : Nat} {I : Nat → List UInt8} (h : SB w0 pb N g I w) : Calls Try.prog 35 #[.pointer (some ⟨pb, 0, none⟩)] w fun e w' => NewImg w N I e w' ∧ SB w0 pb N g I w' := by
  obtain ⟨bv, bt, B, ops, V, hg, h1, h2, h3, _, _⟩ := id h
  have hn1 := hg.n1
  refine (sure_good hg).mono fun e w' hr => ?_
  have hi := img_of (fun k hk => hg.len (by constructor <;> omega) I64.zero) h3 hr
  obtain ⟨_, _, _, _, _, hF⟩ := id hi
  exact ⟨hi, h.calm hF⟩

theorem SAg.sync {w0 w : World} {pb N g : Nat} {I : Nat → List UInt8} (h : SAg w0 pb N g I w) : Calls Try.prog 18 #[.pointer (some ⟨pb, 0, none⟩)] w fun e w' => e = .returned (.int .i64 0) ∧ SB w0 pb N g I w' := by
  obtain ⟨bv, bt, B, c, ops, V, T, hg, hB, h1, h2, h3, h4, h5⟩ := h
  have hn1 := hg.n1
  refine (sync_free hg (by omega)).mono ?_
  rintro e w' ⟨rfl, bt', V', hg', hV, hlt, hF⟩
  have hgl := h4.1
  exact ⟨rfl, bv, bt', _, _, V', hg', ⟨h1.1, h1.2.1, Nat.le_trans h2.size hlt⟩, h2.go hF (fun i e => by omega), fun k hk => (hV k (by constructor <;> omega)).trans (h3 k hk),
    ⟨Nat.lt_of_lt_of_le hgl hF.size, h4.2.kept hF hgl (by omega)⟩, h5.1, h5.2.1, by omega⟩

theorem SB.crash {w0 w : World} {pb N g : Nat} {I : Nat → List UInt8} (h : SB w0 pb N g I w) {v : Value} {L : List Int} (hp : IntsV w0 v L) : Calls Try.prog 25 #[.pointer (some ⟨pb, 0, none⟩), v] w fun e w' => e = .returned (.int .i64 0) ∧ SB w0 pb N g I w' := by
  obtain ⟨bv, bt, B, ops, V, hg, h1, h2, h3, h4, h5⟩ := h
  refine (crash_good hg v L (hp.picks h2 h1.2.1)).mono ?_
  rintro e w' ⟨rfl, bt', V', L', hg', _, hL, _, hV, hlt, hF⟩
  obtain rfl := List.eq_nil_of_length_eq_zero hL
  have hgl := h4.1
  exact ⟨rfl, bv, bt', _, _, V', hg', ⟨h1.1, h1.2.1, Nat.le_trans h2.size hlt⟩, h2.go hF (fun i e => by omega), fun k hk => (hV k (by simp)).trans (h3 k hk),
    ⟨Nat.lt_of_lt_of_le hgl hF.size, h4.2.kept hF hgl (by omega)⟩, h5.1, h5.2.1, by omega⟩

theorem SB.pending {w0 w : World} {pb N g : Nat} {I : Nat → List UInt8} (h : SB w0 pb N g I w) : Calls Try.prog 29 #[.pointer (some ⟨pb, 0, none⟩)] w fun e w' => e = .returned (.int .i64 0) ∧ w = w' := by
  obtain ⟨bv, bt, B, ops, V, hg, _⟩ := h
  exact pending_good hg

theorem same_img {w : World} {g1 c1 g2 c2 N : Nat} {l : List UInt8} (h1 : Has w g1 l) (h2 : Has w g2 l) (hl : l.length = N * 256) (hN : N ≤ 1000) : Calls Try.prog 22 #[.slice (some ⟨g1, 0, none⟩) (N * 256) c1, .slice (some ⟨g2, 0, none⟩) (N * 256) c2] w fun e w' => e = .returned (.bool true) ∧ Fr (fun _ => False) w w' := by
  have h := sameR_any w g1 0 c1 g2 0 c2 l l h1.2 h2.2 rfl (by omega)
  rw [hl, decide_eq_true rfl] at h
  exact h.mono fun _ _ ⟨a, b⟩ => ⟨a, b.fr⟩

/-- do, on a new disk. -/
theorem new_do {w0 w : World} {pb bv bt N : Nat} (hg : Good w pb bv bt N 0 0 0 (-1) false (fun _ _ => noughts) (fun _ => 0)) (hN : N ≤ 1000) (h1 : w0.heap.size ≤ pb ∧ w0.heap.size ≤ bv ∧ w0.heap.size ≤ bt) (hF : Fr (fun _ => False) w0 w) {v : Value} {A : List ActD} (hA : ActsV w0 v A) :
    Calls Try.prog 38 #[.pointer (some ⟨pb, 0, none⟩), v] w fun e w' => e = .returned (.tuple #[]) ∧ ∃ I, SA w0 pb N I w' := by
  refine (do_acts w hg (by omega) hN v A (hA.kept hF) (fun he blk _ off cap hv => ?_)).mono ?_
  · obtain ⟨p, cap', hv', _, ha⟩ := hA
    obtain ⟨blk', off', hp, hb, _⟩ := ha he
    subst hp
    rw [hv'] at hv
    simp only [Value.slice.injEq, Option.some.injEq, Addr.mk.injEq, and_true] at hv
    omega
  · rintro e w' ⟨rfl, ⟨bt', c, ops, V, T, hg', hb, _⟩, hfr⟩
    have hs := hF.size
    exact ⟨rfl, fun k => V k (T k), bv, bt', _, c, ops, V, T, hg', by omega, ⟨h1.1, h1.2.1, by omega⟩, hF.go hfr (fun i e => by omega), fun _ _ => rfl⟩

set_option maxRecDepth 100000 in
set_option maxHeartbeats 4000000 in
theorem walk (a0 : Int) (v1 v2 : Value) (A : List ActD) (L : List Int) (w : World) (hA : ActsV w v1 A) (hL : IntsV w v2 L) :
    Calls Try.prog 4 #[.int .i64 a0, v1, v2] w fun e w' => e = .returned (.bool true) ∧ Fr (fun _ => False) w w' := by
  have HA := Lib.hid hA
  have HL := Lib.hid hL
  have ham := amongZ_in (n := a0) (m := 20) (by omega) (by omega)
  obtain ⟨z, hz⟩ : ∃ z, z = amongZ a0 20 := ⟨_, rfl⟩
  rw [← hz] at ham
  obtain ⟨N, hN⟩ : ∃ N : Nat, (N : Int) = 1 + z := ⟨(1 + z).toNat, by omega⟩
  have hNb : N ≤ 20 := by omega
  have hN1 : 1 ≤ N := by omega
  have HAM : Hid (∀ w, Calls Try.prog 14 #[.int .i64 a0, .int .i64 20] w fun e w' => e = .returned (.int .i64 z) ∧ w = w') := fun w => by rw [hz]; exact among_any w a0 20 (by omega) (by omega)
  have HNEW : Hid (∀ w, Calls Try.prog 9 #[.int .i64 (1 + z)] w fun e w' => NewGood w N e w') := fun w => by rw [← hN]; exact new_good w N hN1 (by omega)
  clear hA hL hz hN
  go_enter Try.func4, Try.ntmps4
  go_wp2_with fail
  refine (works_any w).mono ?_
  rintro e w1 ⟨rfl, hF1⟩
  have F1 := Lib.hid hF1
  clear hF1
  go_wp2_with fail
  refine (HAM.out _).mono ?_
  rintro e w' ⟨rfl, rfl⟩
  go_wp2_with fail
  refine (HNEW.out _).mono ?_
  rintro e w2 ⟨pb, bv, bt, rfl, hg, b1, b2, b3, hF2⟩
  have C3 := Lib.hid (new_do (w0 := w) hg (by omega) ⟨Nat.le_trans F1.out.size b1, Nat.le_trans F1.out.size b2, Nat.le_trans F1.out.size b3⟩ (F1.out.trans hF2 (fun _ _ e => e)) HA.out)
  clear hg b1 b2 b3 hF2 F1
  go_wp2_with fail
  refine (C3.out).mono ?_
  rintro e w3 ⟨rfl, I, hs3⟩
  have C4 := Lib.hid hs3.image
  clear hs3 C3
  go_wp2_with fail
  refine (C4.out).mono ?_
  rintro e w4 ⟨g4, k4, rfl, hl4, hs4⟩
  have HL4 := Lib.hid hl4
  have C5 := Lib.hid hs4.sync
  clear hl4 hs4 C4
  go_wp2_with fail
  refine (C5.out).mono ?_
  rintro e w5 ⟨rfl, hs5⟩
  have C6 := Lib.hid hs5.sure
  clear hs5 C5
  go_wp2_with fail
  refine (C6.out).mono ?_
  rintro e w6 ⟨⟨g6, k6, rfl, hh6, _, hF6⟩, hs6⟩
  have C7 := Lib.hid (same_img (c1 := k6) (c2 := k4) hh6 hs6.has HL4.out (by omega))
  have S6 := Lib.hid hs6
  clear hh6 hF6 hs6 C6
  go_wp2_with fail
  refine (C7.out).mono ?_
  rintro e w7 ⟨rfl, hF7⟩
  have C8 := Lib.hid ((S6.out.calm hF7).crash HL.out)
  clear hF7 C7 S6
  go_wp2_with fail
  refine (C8.out).mono ?_
  rintro e w8 ⟨rfl, hs8⟩
  have C9 := Lib.hid hs8.image
  clear hs8 C8
  go_wp2_with fail
  refine (C9.out).mono ?_
  rintro e w9 ⟨⟨g9, k9, rfl, hh9, _, hF9⟩, hs9⟩
  have C10 := Lib.hid (same_img (c1 := k9) (c2 := k4) hh9 hs9.has HL4.out (by omega))
  have S9 := Lib.hid hs9
  clear hh9 hF9 hs9 C9
  go_wp2_with fail
  refine (C10.out).mono ?_
  rintro e w10 ⟨rfl, hF10⟩
  have S10 := Lib.hid (S9.out.calm hF10)
  have C11 := Lib.hid S10.out.pending
  clear hF10 C10 S9
  go_wp2_with fail
  refine (C11.out).mono ?_
  rintro e w' ⟨rfl, rfl⟩
  go_wp2_with fail
  go_ret
  exact ⟨rfl, S10.out.fr⟩

/-! ### the row -/
theorem own : ownKnob Try.prog.godebug = none := by kernel_rfl

set_option maxRecDepth 100000 in
theorem lifted (os : Os) (started : os.Started) (H : Type) (enc : TypeId × Value → H) :
    ReturnsInHanded {} Try.checked os 4 .any (Rows.diskSyncedSpec.pre6 enc Try.prog Try.f4 Rows.diskSyncedRow.domain false) (Rows.diskSyncedSpec.post enc Try.prog Try.f4 false true false false) := by
  refine returnsInHanded_of_change (C := Try.checked) own started (by kernel_rfl) Try.func4
    (ChangeSpec.witness6 (enc := enc) (C := Try.checked) false ⟨#[], #[.int .i64 0, .slice none 0 0, .slice none 0 0], []⟩ 8 (by kernel_rfl) (by kernel_rfl) (by kernel_rfl) (by kernel_rfl)) ?_
  intro W base args ds gs before hval0 hW _ _
  have hval : ∀ (j : Nat) t v, Try.f4.params[j]? = some t → args[j]? = some v → Value.okWide Try.prog W .any base t v := hval0
  have hW' := hW
  obtain ⟨p, q, hA0, hV, rfl, hfz, hnd⟩ := hW
  have hA : DataW.TrodAll enc Try.prog W 0 (fun _ => true) true Try.f4.params.toList args.toList ds p := hA0
  rw [Try.params4] at hA hval
  obtain ⟨v0, vs0, d0, ds0, p0, q0, hargs, rfl, rfl, h0, r0⟩ := trodAll_cons hA
  obtain ⟨v1, vs1, d1, ds1, p1, q1, rfl, rfl, rfl, h1, r1⟩ := trodAll_cons r0
  obtain ⟨v2, vs2, d2, ds2, p2, q2, rfl, rfl, rfl, h2, r2⟩ := trodAll_cons r1
  obtain ⟨rfl, rfl, rfl⟩ := trodAll_nil r2
  obtain rfl : args = #[v0, v1, v2] := by cases args; simp_all
  obtain ⟨rfl, rfl⟩ := trodVars_none hV
  obtain ⟨a0, rfl, rfl, rfl, w0⟩ := open_int Try.underlying3 (hval 0 3 v0 rfl rfl) h0
  obtain ⟨a1, len1, cap1, rfl⟩ := okWide_slice Try.underlying23 (hval 1 23 v1 rfl rfl)
  obtain ⟨a2, len2, cap2, rfl⟩ := okWide_slice Try.underlying34 (hval 2 34 v2 rfl rfl)
  obtain ⟨A, _, hAc⟩ := acts_open (fun _ => rfl) h1
  obtain ⟨L, _, hLi, _⟩ := intsV_open (fun _ => rfl) h2
  clear hA0 hval0
  simp only [List.append_nil, List.nil_append] at hW' 
  have hlt1 : ∀ x ∈ p1, x.block < W.heap.size := fun x hx => by simpa using hW'.lt x (by simp [hx])
  have hlt2 : ∀ x ∈ p2, x.block < W.heap.size := fun x hx => by simpa using hW'.lt x (by simp [hx])
  refine (walk a0 _ _ A L W hAc hLi).mono fun e W' ⟨he, hg⟩ => ?_
  subst he
  have hB : Below W.heap.size W W' := hg.below (Nat.le_refl _) (fun _ _ e => e.elim)
  have t1 := Below.trod laidOut (by kernel_rfl) (of_decide_eq_true (by kernel_rfl)) h1 hB hlt1
  have t2 := Below.trod laidOut (by kernel_rfl) (of_decide_eq_true (by kernel_rfl)) h2 hB hlt2
  exact ⟨_, rfl, _, _, _, [], _, [], hW', trodAll_cons_mk (shut_bool Try.underlying4 _) trodAll_mk0, trodAll_cons_mk (shut_int Try.underlying3 w0) (trodAll_cons_mk t1 (trodAll_cons_mk t2 trodAll_mk0)), rfl, hB.frame _, fun h => by cases h⟩

theorem over : Rows.diskSyncedRow.holds Try.pinned (OpenSpec.ofChange Rows.diskSyncedSpec) :=
  OpenClaim.holds_of_wide 4 Try.f4 rfl rfl rfl rfl rfl rfl rfl ⟨rfl, rfl, rfl, rfl, rfl⟩ rfl rfl rfl rfl rfl (by kernel_rfl) Try.func4 (by kernel_rfl)
    (of_decide_eq_true (by kernel_rfl)) (by unfold Func.isWrapper; first | (rw [if_pos (by decide +kernel)]; kernel_rfl) | (rw [if_neg (by decide +kernel)]; exact ⟨rfl, rfl⟩))
    (fun os started H enc _ => lifted os started H enc)

theorem proved : Rows.DiskSyncedSaid :=
  over
#print axioms proved

end Go.Proofs.Ytbmbibepcnpngaa.diskSynced
