/-
  The program's Runs; its streams, all of their contracts.
-/
import Derived.Test.YtcdhakfmljjaoaaGreatDoorFeV
namespace Go.Proofs.YtcdhakfmljjaoaaGreatDoor.ft
set_option maxRecDepth 100000
open Go.RowKit Go.Maps Go.Proofs.YtcdhakfmljjaoaaGreatDoor.fl Go.Proofs.YtcdhakfmljjaoaaGreatDoor.cd
set_option maxRecDepth 100000

theorem runB_len (c : UInt8) : ∀ f left, (runB lsP c f left).length ≤ 9 * left
  | 0, left => by
    rw [runB]
    have := litsW_len (List.replicate left c)
    rwa [List.length_replicate] at this
  | f + 1, left => by
    rw [runB]
    by_cases h : 3 ≤ left
    · rw [if_pos h, List.length_append]
      have h1 := again_len lsP_sym (n := min left 258) (by omega) (by omega)
      have h2 := runB_len c f (left - min left 258)
      omega
    · rw [if_neg h]
      have := litsW_len (List.replicate left c)
      rwa [List.length_replicate] at this
theorem runsB_nil (f : Nat) : runsB lsP f [] = [] := by cases f <;> rfl
theorem runsB_cons {f : Nat} {c : UInt8} {r : By} (h : r.length + 1 ≤ f) : ∃ f', r.length ≤ f' ∧ runsB lsP f (c :: r) = (litB c ++ runB lsP c (headN c r) (headN c r)) ++ runsB lsP f' (r.drop (headN c r)) := by
  obtain ⟨f', rfl⟩ : ∃ f', f = f' + 1 := ⟨f - 1, by omega⟩
  exact ⟨f', by omega, by rw [runsB, List.append_assoc]⟩
set_option maxHeartbeats 8000000 in
theorem pruns (w : World) (hT : Tabs w) (A : Option Addr) (cap : Nat) (b : By) (hr : Rd w w.heap.size A b) (hc : b.length ≤ cap) (hb : b.length ≤ 262144) : Calls Tryz.prog 38 #[.slice A b.length cap] w (NewR w (runsV lsP b)) := by
  obtain ⟨n, hn⟩ : ∃ n, n = b.length := ⟨_, rfl⟩
  have H0 := Lib.hid (⟨hn, hr, hc⟩ : n = b.length ∧ Rd w w.heap.size A b ∧ b.length ≤ cap)
  obtain ⟨U, hU⟩ : ∃ U, U = runsV lsP b := ⟨_, rfl⟩
  have HU := Lib.hid (show U = packI ([1, 1, 0] ++ runsB lsP b.length b ++ endB) by rw [hU]; unfold runsV; rw [List.append_assoc])
  have HT := Lib.hid hT
  rw [← hn] at hb ⊢
  rw [← hU]
  clear hr hn hU hc hT
  go_enter Tryz.func38, Tryz.ntmps38
  go_wp2_with fail
  refine (pbegin w).mono ?_
  rintro e w1 ⟨g, wa, cs, cd, rfl, g1⟩
  have H1 := Lib.hid g1
  clear g1
  go_wp2_with fail
  go_loopw [0, 4] (fun v0 _ wr => ∃ (k : Nat) (A' : Option Addr) (cap' : Nat) (r : By) (X : List Int), v0 = .slice A' k cap' ∧ k ≤ n ∧ X.length ≤ 9 * (n - k) ∧ Hid (k = r.length ∧ Rd w w.heap.size A' r ∧ r.length ≤ cap' ∧ BJ w g wa cs cd wr ([1, 1, 0] ++ X) ∧ ∃ f, r.length ≤ f ∧ runsB lsP b.length b = X ++ runsB lsP f r)) (fun v _ _ => match v with | .slice _ k _ => k | _ => 0)
  case atStart => exact ⟨n, A, cap, b, [], rfl, Nat.le_refl _, by simp, (show _ ∧ _ from ⟨H0.out.1, H0.out.2.1, H0.out.2.2, H1.out, b.length, Nat.le_refl _, rfl⟩)⟩
  case round =>
    obtain ⟨k, A', cap', r, X, rfl, hk, hX, HC⟩ := hrel
    clear H0 H1
    by_cases hk0 : 0 < k
    · obtain ⟨c, r', rfl⟩ : ∃ c r', r = c :: r' := by
        match r, HC.out.1 with
        | [], h => simp at h; omega
        | c :: r', _ => exact ⟨c, r', rfl⟩
      have hkr : k = r'.length + 1 := by have := HC.out.1; rwa [List.length_cons] at this
      have hcap : k ≤ cap' := by have := HC.out.2.2.1; rw [List.length_cons] at this; omega
      have hRd := HC.out.2.1.still HC.out.2.2.2.1.fr (Nat.le_refl _)
      have HLK := Lib.hid (show Calls Tryz.prog 60 #[.slice A' k cap'] wr _ from by rw [hkr]; exact plike wr A' cap' _ c r' hRd (by omega))
      obtain ⟨blk, off, rfl, _, hcell⟩ := hRd.at_ (k := 0) (by simp)
      have hcell0 : wr.cell? ⟨blk, off, none⟩ = some (.int .u8 (c.toNat : Int)) := hcell
      have HCE := Lib.hid (show ∀ w2, Calm wr w2 → w2.cell? ⟨blk, off, none⟩ = some (.int .u8 (c.toNat : Int)) from fun w2 hC => (hC.cell _).trans hcell0)
      have hhl := head_le c r'
      obtain ⟨f, hf1, hf2⟩ := HC.out.2.2.2.2
      obtain ⟨f', hf3, hf4⟩ := runsB_cons (c := c) (r := r') (by rw [List.length_cons] at hf1; exact hf1)
      obtain ⟨m, hm⟩ : ∃ m, m = 1 + headN c r' := ⟨_, rfl⟩
      have hmh : headN c r' = m - 1 := by omega
      rw [← hm] at HLK
      have HRW := Lib.hid (show ∀ w2, Calm wr w2 → _ from fun w2 hC => prow_w HT.out (HC.out.2.2.2.1.still hC.fr) c m (by omega) (by rw [List.length_append]; simp only [List.length_cons, List.length_nil]; omega))
      obtain ⟨A2, hA2⟩ : ∃ A2, A2 = (if cap' = m then (some ⟨blk, off, none⟩ : Option Addr) else (some (⟨blk, off, none⟩ : Addr)).map (·.add m)) := ⟨_, rfl⟩
      obtain ⟨c2, hc2⟩ : ∃ c2, c2 = cap' - m := ⟨_, rfl⟩
      obtain ⟨k2, hk2⟩ : ∃ k2, k2 = k - m := ⟨_, rfl⟩
      have hhi : ∀ wx : World, (Instr.slice 22 (.slice (some ⟨blk, off, none⟩) k cap') (some (.int .i64 (m : Int))) none none).run Tryz.prog wx = .ok (.slice A2 k2 c2) wx := fun wx => by rw [hA2, hc2, hk2]; exact cutB_high wx _ k cap' m (by omega)
      have HNX := Lib.hid (show k2 = (r'.drop (headN c r')).length ∧ Rd w w.heap.size A2 (r'.drop (headN c r')) ∧ (r'.drop (headN c r')).length ≤ c2 ∧ (∃ f, (r'.drop (headN c r')).length ≤ f ∧ runsB lsP b.length b = (X ++ (litB c ++ runB lsP c (m - 1) (m - 1))) ++ runsB lsP f (r'.drop (headN c r'))) from by
        have hld : (r'.drop (headN c r')).length = k2 := by rw [List.length_drop]; omega
        refine ⟨hld.symm, ?_, by omega, f', by rw [List.length_drop]; omega, by rw [hf2, hf4, hmh]; simp only [List.append_assoc]⟩
        have := HC.out.2.1.drop (k := m) (cap := cap') (by rw [List.length_cons]; omega)
        rw [hA2]
        rw [show (c :: r').drop m = r'.drop (headN c r') by rw [hm, Nat.add_comm 1]; rfl] at this
        exact this)
      have hX2 : (X ++ (litB c ++ runB lsP c (m - 1) (m - 1))).length ≤ 9 * (n - k2) := by
        rw [List.length_append, List.length_append]
        have h1 := litW_len c
        have h2 := runB_len c (m - 1) (m - 1)
        omega
      have hk2n : k2 ≤ n := by omega
      have hk2k : k2 < k := by omega
      obtain ⟨r2, hr2⟩ : ∃ r2, r2 = r'.drop (headN c r') := ⟨_, rfl⟩
      obtain ⟨X2, hXX⟩ : ∃ X2, X2 = X ++ (litB c ++ runB lsP c (m - 1) (m - 1)) := ⟨_, rfl⟩
      rw [← hr2, ← hXX] at HNX
      rw [← hXX] at hX2
      have HX2 := Lib.hid hXX
      obtain ⟨x, hx⟩ : ∃ x, x = c.toNat := ⟨_, rfl⟩
      rw [← hx] at HCE HRW
      have hm9 : m ≤ 262144 := by omega
      have hmk : m ≤ k := by omega
      clear hA2 hc2 hk2 hm hmh hr2 hXX hx hcell hcell0 hRd hf1 hf2 hf3 hf4 hkr hhl
      go_wp2_with fail
      refine HLK.out.mono ?_
      rintro e w2 ⟨rfl, hC⟩
      have c0 := HCE.out _ hC
      have HR2 := Lib.hid (HRW.out _ hC)
      clear hC HLK HRW HCE
      go_wp2_with fail
      refine HR2.out.mono ?_
      rintro e w3 ⟨⟨v, rfl⟩, g3⟩
      have H3 := Lib.hid (show k2 = r2.length ∧ Rd w w.heap.size A2 r2 ∧ r2.length ≤ c2 ∧ BJ w g wa cs cd w3 ([1, 1, 0] ++ X2) ∧ ∃ f, r2.length ≤ f ∧ runsB lsP b.length b = X2 ++ runsB lsP f r2 from ⟨HNX.out.1, HNX.out.2.1, HNX.out.2.2.1, by rw [HX2.out, ← List.append_assoc]; exact g3, HNX.out.2.2.2⟩)
      clear g3 HR2 HNX
      go_wp2_with fail
      go_roundw
      case rel => exact ⟨k2, A2, c2, r2, X2, rfl, hk2n, hX2, H3⟩
      case measure => exact hk2k
    · obtain rfl : k = 0 := by omega
      have HAL := Lib.hid (pall HC.out.2.2.2.1 (by rw [List.length_append]; simp only [List.length_cons, List.length_nil]; omega))
      have HE := Lib.hid (show packI ([1, 1, 0] ++ X ++ endB) = U from by
        obtain ⟨f, _, h2⟩ := HC.out.2.2.2.2
        rw [List.eq_nil_of_length_eq_zero (l := r) HC.out.1.symm, runsB_nil, List.append_nil] at h2
        rw [HU.out, h2])
      rw [HE.out] at HAL
      go_wp2_with fail
      refine HAL.out.mono ?_
      rintro e w2 ⟨A2, cap2, rfl, g2⟩
      have H2 := Lib.hid g2
      clear g2 HAL
      obtain ⟨m, hm⟩ : ∃ m, m = U.length := ⟨_, rfl⟩
      rw [← hm]
      have HM := Lib.hid hm
      clear hm
      go_wp2_with fail
      go_ret
      have hm := HM.out
      subst hm
      exact ⟨A2, cap2, rfl, H2.out⟩
theorem flate_all : FlateP Tabs lsP where
  lens := lsP_sym
  d_keep := fun h hF => h.keep hF
  inflate := fun w A cap b most hr hA hc hb hm hT => pinflate w A cap b most hr hA hc (by omega) hm hT
  runs := fun w A cap b hr _ hc hb hT => pruns w hT A cap b hr hc hb
end Go.Proofs.YtcdhakfmljjaoaaGreatDoor.ft
