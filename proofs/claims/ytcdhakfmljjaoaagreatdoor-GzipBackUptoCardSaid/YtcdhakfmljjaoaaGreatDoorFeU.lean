/-
  The program's writer at fixed blocks: begin, all, row, Fixed.
-/
import Derived.Test.YtcdhakfmljjaoaaGreatDoorFeS
namespace Go.Proofs.YtcdhakfmljjaoaaGreatDoor.ft
set_option maxRecDepth 100000
open Go.RowKit Go.Maps Go.Proofs.YtcdhakfmljjaoaaGreatDoor.fl Go.Proofs.YtcdhakfmljjaoaaGreatDoor.cd
set_option maxRecDepth 100000

theorem BJ.start {w w1 w2 : World} {wa cs cd : Addr} {T S1 S2 : Nat → Prop} (h1 : PV w1 wa [] T) (hT : ∀ i, T i → w.heap.size ≤ i) (hF1 : Fr (fun _ => False) w w1) (h2 : PC w2 cs fixI S1) (h3 : PC w2 cd five2 S2) (hS1 : ∀ i, S1 i → w1.heap.size ≤ i) (hS2 : ∀ i, S2 i → w1.heap.size ≤ i) (hF2 : Fr (fun _ => False) w1 w2) :
    BJ w w2.heap.size wa cs cd (w2.alloc (.cells #[.pointer (some wa), .pointer (some cs), .pointer (some cd)] 114)) [] := by
  have hA := (Fr.refl (fun _ => False) w2).alloc (.cells #[.pointer (some wa), .pointer (some cs), .pointer (some cd)] 114)
  have hs1 := hF1.size
  have hs2 := hF2.size
  have hlt := (flow_all.v_in h1).1
  refine ⟨⟨T, S1, S2, heap_alloc_new _ _, flow_all.v_keep (flow_all.v_keep h1 hF2 (fun _ _ e => e)) hA (fun _ _ e => e), code_all.c_keep h2 hA (fun _ _ e => e), code_all.c_keep h3 hA (fun _ _ e => e), fun i hi => ⟨hT i hi, ?_, fun e => ?_, fun e => ?_⟩⟩, Nat.le_trans hs1 hs2, (hF1.trans hF2 (fun _ _ e => e)).trans hA (fun _ _ e => e)⟩
  · have := hlt i hi; omega
  · have := hlt i hi; have := hS1 i e; omega
  · have := hlt i hi; have := hS2 i e; omega
set_option maxHeartbeats 4000000 in
theorem pbegin (w : World) : Calls Tryz.prog 59 #[] w fun e w' => ∃ g wa cs cd, e = .returned (.pointer (some ⟨g, 0, none⟩)) ∧ BJ w g wa cs cd w' [1, 1, 0] := by
  have HW := Lib.hid (flow_all.write w)
  go_enter Tryz.func59, Tryz.ntmps59
  go_wp2_with fail
  refine HW.out.mono ?_
  rintro e w1 ⟨wa, T, rfl, g1, g2, g3⟩
  have H1 := Lib.hid (⟨g1, g2, g3⟩ : _ ∧ _ ∧ _)
  clear g1 g2 g3
  go_wp2_with fail
  refine (pfixedPair w1).mono ?_
  rintro e w2 ⟨cs, cd, S1, S2, rfl, g1, g2, g3, g4, g5⟩
  have hB := BJ.start H1.out.1 H1.out.2.1 H1.out.2.2 g1 g2 g3 g4 g5
  obtain ⟨c0, _, _⟩ := hB.cells
  have HB := Lib.hid hB
  clear g1 g2 g3 g4 g5 hB
  have HK := Lib.hid (show Calls Tryz.prog 80 #[.pointer (some wa), .int .i64 1, .int .i64 1] (w2.alloc (.cells #[.pointer (some wa), .pointer (some cs), .pointer (some cd)] 114)) (fun e w' => (∃ v, e = .returned v) ∧ BJ w w2.heap.size wa cs cd w' [1, 1, 0]) from by
    obtain ⟨T', S1', S2', h1, h2, h3, h4, h5⟩ := HB.out.st
    exact (pputKind h2 (by simp) 1 1 (by omega) (by omega)).mono fun e w' ⟨he, hv⟩ => ⟨he, HB.out.moved h1 h3 h4 h5 hv⟩)
  go_wp2_with fail
  refine HK.out.mono ?_
  rintro e w3 ⟨⟨v, rfl⟩, g⟩
  have G := Lib.hid g
  clear g
  go_wp2_with fail
  go_ret
  exact ⟨_, wa, cs, cd, rfl, G.out⟩
section
variable {w0 w w' : World} {g : Nat} {wa cs cd : Addr} {L : List Int}
set_option maxHeartbeats 4000000 in
theorem pall (h : BJ w0 g wa cs cd w L) (hL : L.length ≤ 3900000) : Calls Tryz.prog 62 #[.pointer (some ⟨g, 0, none⟩)] w (NewR w0 (packI (L ++ endB))) := by
  have HS := Lib.hid (psymbol h (n := 256) (by omega) hL)
  obtain ⟨Q, hQ⟩ : ∃ Q, Q = packI (L ++ endB) := ⟨_, rfl⟩
  have HAL := Lib.hid (show ∀ w1, BJ w0 g wa cs cd w1 (L ++ wordB fixI 256) → Calls Tryz.prog 84 #[.pointer (some wa)] w1 (NewR w0 Q) from fun w1 hj => by
    obtain ⟨T, S1, S2, h1, h2, h3, h4, h5⟩ := hj.st
    have hlen : (L ++ wordB fixI 256).length ≤ 4000000 := by
      rw [List.length_append, wordB_length]
      have := (fix_len (s := 256) (by omega)).2.1
      omega
    refine (flow_all.all w1 wa _ T h2 hlen).mono fun e w2 ⟨A, cap, S', he, ho, _, _, hF⟩ => ?_
    have he2 : packI (L ++ wordB fixI 256) = Q := hQ.symm
    rw [he2] at he ho
    rw [he]
    have hs := hj.fr.size
    exact newR_of ho (hj.fr.trans hF (fun i hi e => absurd (h5 i e).1 (by omega))))
  rw [← hQ]
  clear h hQ
  go_enter Tryz.func62, Tryz.ntmps62
  go_wp2_with fail
  refine HS.out.mono ?_
  rintro e w1 ⟨⟨v, rfl⟩, g1⟩
  obtain ⟨c0, _, _⟩ := g1.cells
  have H1 := Lib.hid (HAL.out _ g1)
  clear g1 HS HAL
  go_wp2_with fail
  refine H1.out.mono ?_
  rintro e w2 ⟨A, cap, rfl, g⟩
  have H2 := Lib.hid g
  clear g
  obtain ⟨m, hm⟩ : ∃ m, m = Q.length := ⟨_, rfl⟩
  rw [← hm]
  have HM := Lib.hid hm
  clear hm
  go_wp2_with fail
  go_ret
  have hm := HM.out
  subst hm
  exact ⟨A, cap, rfl, H2.out⟩
theorem runB_more {c : UInt8} {f left : Nat} (h : left ≤ f) (h3 : 3 ≤ left) : ∃ f', left - min left 258 ≤ f' ∧ runB lsP c f left = againB lsP (min left 258) ++ runB lsP c f' (left - min left 258) := by
  obtain ⟨f', rfl⟩ : ∃ f', f = f' + 1 := ⟨f - 1, by omega⟩
  exact ⟨f', by omega, by rw [runB, if_pos h3]⟩
theorem runB_end {c : UInt8} {f left : Nat} (h3 : ¬ 3 ≤ left) : runB lsP c f left = (List.replicate left c).flatMap litB := by
  cases f with
  | zero => rfl
  | succ f => rw [runB, if_neg h3]
theorem one_lit (c : UInt8) : (List.replicate 1 c).flatMap litB = litB c := by simp
set_option maxHeartbeats 4000000 in
theorem prow_w (hT : Tabs w0) (h : BJ w0 g wa cs cd w L) (c : UInt8) (n : Nat) (hn1 : 1 ≤ n) (hL : L.length + 9 * n ≤ 3700000) : Calls Tryz.prog 61 #[.pointer (some ⟨g, 0, none⟩), .int .u8 (c.toNat : Int), .int .i64 (n : Int)] w fun e w' => (∃ v, e = .returned v) ∧ BJ w0 g wa cs cd w' (L ++ (litB c ++ runB lsP c (n - 1) (n - 1))) := by
  have HB1 := Lib.hid (pbytes_many h c 1 (by omega))
  rw [one_lit] at HB1
  have HT := Lib.hid hT
  have hlc := litW_len c
  obtain ⟨x, hx⟩ : ∃ x, x = c.toNat := ⟨_, rfl⟩
  have HX := Lib.hid hx
  rw [← hx] at HB1 ⊢
  obtain ⟨m, hm⟩ : ∃ m, m = n - 1 := ⟨_, rfl⟩
  have hnm : (n : Int) - 1 = (m : Int) := by omega
  have hmw : IntKind.i64.wrap (m : Int) = (m : Int) := IntWalk.i64_in _ (by omega)
  have hmn : m ≤ n := by omega
  have hL2 : L.length + 9 + 9 * m ≤ 3700000 := by omega
  rw [← hm]
  clear hm
  clear h hT hx
  go_enter Tryz.func61, Tryz.ntmps61
  go_wp2_with fail
  refine HB1.out.mono ?_
  rintro e w1 ⟨⟨v, rfl⟩, g1⟩
  have H1 := Lib.hid g1
  clear g1 HB1
  go_wp2_with fail
  go_loopw [6, 7] (fun v6 _ wr => ∃ (left f : Nat) (X : List Int), v6 = .int .i64 left ∧ left ≤ m ∧ left ≤ f ∧ X.length ≤ 9 * (m - left) ∧ Hid (BJ w0 g wa cs cd wr (L ++ litB c ++ X) ∧ runB lsP c m m = X ++ runB lsP c f left)) (fun v _ _ => (intOf v).toNat)
  case atStart => exact ⟨m, m, [], rfl, Nat.le_refl _, Nat.le_refl _, by simp, (show _ ∧ _ from ⟨by rw [List.append_nil]; exact H1.out, rfl⟩)⟩
  case round =>
    obtain ⟨left, f, X, rfl, hlm, hlf, hX, HC⟩ := hrel
    clear H1
    by_cases h3 : 3 ≤ left
    · obtain ⟨f', hf1, hf2⟩ := runB_more (c := c) hlf h3
      obtain ⟨q, hq⟩ : ∃ q, q = min left 258 := ⟨_, rfl⟩
      rw [← hq] at hf1 hf2
      have HCP := Lib.hid (pcopies_w HT.out HC.out.1 q (by omega) (by omega) (by rw [List.length_append, List.length_append]; omega))
      have hag := again_len lsP_sym (n := q) (by omega) (by omega)
      have HQ := Lib.hid hq
      have HR := Lib.hid hf2
      have hmin : min (left : Int) 258 = (q : Int) := by omega
      have hqs : (left : Int) - (q : Int) = ((left - q : Nat) : Int) := by omega
      obtain ⟨l2, hl2⟩ : ∃ l2, l2 = left - q := ⟨_, rfl⟩
      rw [← hl2] at hqs hf1 HR
      have hl2w : IntKind.i64.wrap (l2 : Int) = (l2 : Int) := IntWalk.i64_in _ (by omega)
      have hq3 : 3 ≤ q := by omega
      clear hf2 hq
      go_wp2_with fail
      refine HCP.out.mono ?_
      rintro e w2 ⟨⟨v, rfl⟩, g2⟩
      have H2 := Lib.hid (show BJ w0 g wa cs cd w2 (L ++ litB c ++ (X ++ againB lsP q)) ∧ runB lsP c m m = (X ++ againB lsP q) ++ runB lsP c f' l2 from ⟨by rw [← List.append_assoc]; exact g2, by rw [HC.out.2, HR.out, List.append_assoc]⟩)
      have hX2 : (X ++ againB lsP q).length ≤ 9 * (m - l2) := by
        rw [List.length_append]
        have := HQ.out
        omega
      have hlq : (left : Int) - (q : Int) = (l2 : Int) := hqs
      have hl2m : l2 ≤ m := by omega
      have hl2l : l2 < left := by omega
      clear g2 HCP hl2
      go_wp2_with fail
      go_roundw
      case rel => exact ⟨l2, f', _, rfl, hl2m, hf1, hX2, H2⟩
      case measure => simp [intOf]; omega
    · have HBE := Lib.hid (pbytes_many HC.out.1 c left (by rw [List.length_append, List.length_append]; omega))
      rw [← HX.out] at HBE
      have HRE := Lib.hid (show L ++ (litB c ++ runB lsP c m m) = L ++ litB c ++ X ++ (List.replicate left c).flatMap litB by rw [HC.out.2, runB_end h3]; simp only [List.append_assoc])
      go_wp2_with fail
      refine HBE.out.mono ?_
      rintro e w2 ⟨⟨v, rfl⟩, g2⟩
      have G2 := Lib.hid g2
      clear g2 HBE
      go_wp2_with fail
      go_end0
      exact ⟨⟨_, rfl⟩, by rw [HRE.out]; exact G2.out⟩
end
end Go.Proofs.YtcdhakfmljjaoaaGreatDoor.ft
