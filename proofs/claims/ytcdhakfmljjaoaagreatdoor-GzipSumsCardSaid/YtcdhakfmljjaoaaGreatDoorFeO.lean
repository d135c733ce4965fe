/-
  The program's Inflate.
-/
import Derived.Test.YtcdhakfmljjaoaaGreatDoorFeN
import Derived.BigQuiet
namespace Go.Proofs.YtcdhakfmljjaoaaGreatDoor.ft
set_option maxRecDepth 100000
open Go.RowKit Go.Maps Go.Proofs.YtcdhakfmljjaoaaGreatDoor.fl Go.Proofs.YtcdhakfmljjaoaaGreatDoor.cd
set_option maxRecDepth 100000

/-- The stream as Inflate makes it. -/
theorem JS.start {w w1 w2 : World} {a cs cd : Addr} {b : By} {M : Nat} {T S1 S2 : Nat → Prop} (hM : M ≤ 262144) (h1 : PR w1 a b 0 T) (hT : ∀ i, T i → w.heap.size ≤ i) (hF1 : Fr (fun _ => False) w w1) (h2 : PC w2 cs fixI S1) (h3 : PC w2 cd five2 S2) (hS1 : ∀ i, S1 i → w1.heap.size ≤ i) (hS2 : ∀ i, S2 i → w1.heap.size ≤ i) (hF2 : Fr (fun _ => False) w1 w2) :
    JS ⟨w, w2.heap.size, a, cs, cd, M, b, fun i => S1 i ∨ S2 i⟩ (fun _ => False) (w2.alloc (.cells #[.pointer (some a), .pointer (some cs), .pointer (some cd), .int .i64 (M : Int), .slice none 0 0] 81)) 0 [] := by
  have hA := (Fr.refl (fun _ => False) w2).alloc (.cells #[.pointer (some a), .pointer (some cs), .pointer (some cd), .int .i64 (M : Int), .slice none 0 0] 81)
  have hsz := hA.size
  have hs1 := hF1.size
  have hs2 := hF2.size
  have hlt1 := (flow_all.r_in h1).1
  have hlt2 := (code_all.c_in h2).1
  have hlt3 := (code_all.c_in h3).1
  refine ⟨⟨T, none, 0, heap_alloc_new _ _, flow_all.r_keep (flow_all.r_keep h1 hF2 (fun _ _ e => e)) hA (fun _ _ e => e), World.ownsRow_nil _ _ _ _, fun i hi => ⟨hT i hi, (fun e => e), fun e => ?_, ?_, (fun e => by cases e)⟩, fun i e => by cases e⟩, ⟨Nat.le_trans hs1 hs2, (fun e => e), fun e => ?_⟩, (hF1.trans hF2 (fun _ _ e => e)).trans hA (fun _ _ e => e), (fun i e => e.elim), ⟨S1, S2, code_all.c_keep h2 hA (fun _ _ e => e), code_all.c_keep h3 hA (fun _ _ e => e), fun i e => Or.inl e, fun i e => Or.inr e, fun i e => ?_⟩, ⟨Nat.zero_le _, hM⟩, Nat.zero_le _⟩
  · have := hlt1 i hi
    rcases e with e | e
    · have := hS1 i e; omega
    · have := hS2 i e; omega
  · have := hlt1 i hi
    show i ≠ w2.heap.size
    omega
  · rcases e with e | e
    · have := hlt2 _ e; exact absurd this (Nat.lt_irrefl _)
    · have := hlt3 _ e; exact absurd this (Nat.lt_irrefl _)
  · rcases e with e | e
    · exact ⟨Nat.le_trans hs1 (hS1 i e), Nat.lt_of_lt_of_le (hlt2 i e) hsz⟩
    · exact ⟨Nat.le_trans hs1 (hS2 i e), Nat.lt_of_lt_of_le (hlt3 i e) hsz⟩
set_option maxHeartbeats 8000000 in
theorem pinflate (w : World) (A : Option Addr) (cap : Nat) (b : By) (most : Int) (hr : Rd w w.heap.size A b) (hA : A = none → cap = 0) (hc : b.length ≤ cap) (hb : b.length ≤ 140737488351232) (hm : Big most) (hT : Tabs w) :
    Calls Tryz.prog 29 #[.slice A b.length cap, .int .i64 most] w fun e w' => ∃ A' cap', e = .returned (.tuple #[.slice A' (inflV b most).1.length cap', .int .i64 ((inflV b most).2.1 : Nat), .int .i64 (inflV b most).2.2]) ∧ Rd w' w'.heap.size A' (inflV b most).1 ∧ Fr (fun _ => False) w w' := by
  by_cases h1 : most < 0
  · have HV := Lib.hid (show inflV b most = ([], 0, 2) by unfold inflV; rw [if_pos (Or.inl h1)])
    obtain ⟨V, hV⟩ : ∃ V, V = inflV b most := ⟨_, rfl⟩
    rw [← hV] at HV ⊢
    clear hr hA hc hb hV
    go_enter Tryz.func29, Tryz.ntmps29
    go_wp2_with fail
    go_ret3
    rw [HV.out]
    first | exact ⟨none, 0, rfl, Rd.nil _ _ _, Fr.refl _ _⟩ | exact ⟨none, ⟨0, rfl⟩, Rd.nil _ _ _, Fr.refl _ _⟩
  · by_cases h2 : 262144 < most
    · have HV := Lib.hid (show inflV b most = ([], 0, 2) by unfold inflV; rw [if_pos (Or.inr h2)])
      obtain ⟨V, hV⟩ : ∃ V, V = inflV b most := ⟨_, rfl⟩
      rw [← hV] at HV ⊢
      clear hr hA hc hb hV
      go_enter Tryz.func29, Tryz.ntmps29
      go_wp2_with fail
      go_ret3
      rw [HV.out]
      first | exact ⟨none, 0, rfl, Rd.nil _ _ _, Fr.refl _ _⟩ | exact ⟨none, ⟨0, rfl⟩, Rd.nil _ _ _, Fr.refl _ _⟩
    · obtain ⟨M, rfl⟩ : ∃ M : Nat, most = M := ⟨most.toNat, by omega⟩
      have hM : M ≤ 262144 := by omega
      have HV := Lib.hid (show inflV b (M : Int) = match loopM (blockS M) [] (bitsOf b) 0 with
        | .error e => ([], 0, e)
        | .ok (o, q) => (o, (q + 7) / 8, 0) by unfold inflV; rw [if_neg (by omega), Int.toNat_natCast]; rfl)
      obtain ⟨V, hV⟩ : ∃ V, V = inflV b (M : Int) := ⟨_, rfl⟩
      rw [← hV] at HV ⊢
      have HN := Lib.hid (flow_all.new w A cap b hr hA hc hb)
      have HT := Lib.hid hT
      obtain ⟨n, hn⟩ : ∃ n, n = b.length := ⟨_, rfl⟩
      have HNN := Lib.hid hn
      rw [← hn] at HN ⊢
      have hb64 : n ≤ 140737488351232 := by omega
      clear hr hA hc hb hV hT hn hm
      go_enter Tryz.func29, Tryz.ntmps29
      go_wp2_with fail
      refine HN.out.mono ?_
      rintro e w1 ⟨a, T, rfl, g1, g2, g3⟩
      have H1 := Lib.hid (⟨g1, g2, g3⟩ : _ ∧ _ ∧ _)
      clear g1 g2 g3
      go_wp2_with fail
      refine (pfixedPair w1).mono ?_
      rintro e w2 ⟨cs, cd, S1, S2, rfl, g1, g2, g3, g4, g5⟩
      have HJ := Lib.hid (JS.start hM H1.out.1 H1.out.2.1 H1.out.2.2 g1 g2 g3 g4 g5)
      clear g1 g2 g3 g4 g5
      go_wp2_with fail
      obtain ⟨E, hE⟩ : ∃ E : En, E = ⟨w, w2.heap.size, a, cs, cd, M, b, fun i => S1 i ∨ S2 i⟩ := ⟨_, rfl⟩
      have HB := Lib.hid (pblocks (by rw [hE]; exact HT.out) (show JS E (fun _ => False) _ 0 [] by rw [hE]; exact HJ.out))
      have e1 : E.g = w2.heap.size := by rw [hE]
      have e2 : E.w0 = w := by rw [hE]
      have e3 : E.most = M := by rw [hE]
      have e4 : E.b = b := by rw [hE]
      rw [e1, e3, e4] at HB
      refine HB.out.mono ?_
      rintro e w4 (⟨z, hz, g1, rfl, g2, g3⟩ | ⟨o, q, g1, rfl, g2, g3⟩)
      · have HE := Lib.hid (show V = ([], 0, z) by rw [HV.out, g1])
        have H4 := Lib.hid (show Fr (fun _ => False) w w4 by rw [← e2]; exact g2)
        clear g1 g2 g3 HB hE
        go_wp2_with fail
        go_ret3
        rw [HE.out]
        first | exact ⟨none, 0, rfl, Rd.nil _ _ _, H4.out⟩ | exact ⟨none, ⟨0, rfl⟩, Rd.nil _ _ _, H4.out⟩
      · have HE := Lib.hid (show V = (o, (q + 7) / 8, 0) by rw [HV.out, g1])
        obtain ⟨A4, cap4, c4, hown⟩ := g2.parts
        have c0 := g2.c0
        have hq := g2.pl
        have HO := Lib.hid (show Rd w4 w4.heap.size A4 o from hown.rd)
        have H4 := Lib.hid (show Fr (fun _ => False) w w4 by rw [← e2]; exact g2.fr)
        have HAT := Lib.hid (fun m : Nat => Calls.quiet_of ((g2.still ((Fr.refl (fun _ => False) w4).drewN m)).at_))
        obtain ⟨m, hm⟩ : ∃ m, m = o.length := ⟨_, rfl⟩
        rw [← hm] at c4
        rw [e1] at c0 c4
        have hq2 : q ≤ 8 * n := by rw [e4] at hq; have := HNN.out; omega
        obtain ⟨rd, hrd⟩ : ∃ rd, rd = E.rd := ⟨_, rfl⟩
        rw [← hrd] at c0 HAT
        have hw1 : IntKind.i64.wrap ((q : Int) + 7) = (q : Int) + 7 := IntWalk.i64_in _ (by omega)
        have hdiv : ((q : Int) + 7).tdiv 8 = (((q + 7) / 8 : Nat) : Int) := by
          rw [Int.tdiv_eq_ediv_of_nonneg (by omega)]
          omega
        clear g1 g2 g3 HB hE hown hrd hq
        go_wp2_with fail
        go_quiet ((go_at_call 55; exact HAT.out _))
        go_wp2_with fail
        go_ret3
        rw [HE.out]
        have HFZ : Fr (fun _ => False) w (w4.drewN nq) := H4.out.trans ((Fr.refl _ w4).drewN nq) (fun _ _ e => e)
        have HRZ : Rd (w4.drewN nq) (w4.drewN nq).heap.size A4 o := HO.out.still ((Fr.refl _ w4).drewN nq) (Nat.le_refl _)
        subst hm
        first | exact ⟨A4, cap4, rfl, HRZ, HFZ⟩ | exact ⟨A4, ⟨cap4, rfl⟩, HRZ, HFZ⟩
end Go.Proofs.YtcdhakfmljjaoaaGreatDoor.ft
