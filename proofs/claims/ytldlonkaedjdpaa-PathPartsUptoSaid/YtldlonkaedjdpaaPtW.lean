/-
  Walks of PathCleans, PathTargets, PathParts, PathStays, PathIn, PathAlong.
-/
import Derived.Test.YtldlonkaedjdpaaPtQ
import Derived.SizedLaws
namespace Go.Proofs.Ytldlonkaedjdpaa.pt
set_option maxRecDepth 100000
open Go.RowKit Go.Maps
set_option maxRecDepth 100000

def AnsX (w : World) (X : ByteArray) (z : Int) (e : Ending) (w' : World) : Prop := e = .returned (.tuple #[.string X, .int .i64 z]) ∧ Fr (fun _ => False) w w'
theorem ansX {P : Program} {f : FuncId} {args : Array Value} {w : World} {r : Tx × Int} {X : ByteArray} {z : Int} (h : Calls P f args w (AnsC w r)) (hX : X = tx r.1) (hz : z = r.2) : Calls P f args w (AnsX w X z) := by subst hX; subst hz; exact h
theorem size_of {s : ByteArray} {n : Nat} (h : s.data.toList.length ≤ n) : s.size ≤ n := by
  rw [Array.length_toList] at h
  exact h
/-- A text's bytes, by the reach of the statement. -/
theorem reach_of {s : ByteArray} (h : s.data.toList.length ≤ reachBytes) : s.size ≤ 140737488355328 := by
  have := size_of h
  have := reachBytes_lt
  omega
abbrev TrueW (w : World) (e : Ending) (w' : World) : Prop := e = .returned (.bool true) ∧ Fr (fun _ => False) w w'
set_option maxHeartbeats 4000000 in
theorem cleans_walk (HP : PathP cleanL) (w : World) (s : ByteArray) (hs : s.size ≤ maxLen) : Calls Try.prog 3 #[.string s] w (TrueW w) := by
  obtain ⟨r, hr⟩ : ∃ r, r = cleanL s.toList := ⟨_, rfl⟩
  obtain ⟨X, hX⟩ : ∃ X, X = tx r.1 := ⟨_, rfl⟩
  obtain ⟨z, hz⟩ : ∃ z, z = r.2 := ⟨_, rfl⟩
  have H1 := Lib.hid (fun wx => ansX (X := X) (z := z) (HP.clean wx s hs) (by rw [hX, hr]) (by rw [hz, hr]))
  have H2 := Lib.hid (fun wx => ansX (X := X) (z := z) (rclean wx s hs) (by rw [hX, hr]) (by rw [hz, hr]))
  have H3 := Lib.hid (fun wx => HP.check wx s hs)
  have H4 := Lib.hid (fun wx => rcheck wx s hs)
  have H5 := Lib.hid (fun wx => works_any HP wx)
  obtain ⟨c, hc⟩ : ∃ c, c = checkZ s.toList := ⟨_, rfl⟩
  rw [← hc] at H3 H4
  clear HP hr hX hz hc hs
  go_enter Try.func3, Try.ntmps3
  go_wp2_with fail
  refine (H1.out _).mono ?_
  rintro e w1 ⟨rfl, hF1⟩
  have K1 := Lib.hid hF1
  clear hF1
  go_wp2_with fail
  refine (H2.out _).mono ?_
  rintro e w2 ⟨rfl, hF2⟩
  have K2 := Lib.hid (K1.out.trans hF2 (fun _ _ e => e))
  clear hF2
  go_wp2_with fail
  refine (H3.out _).mono ?_
  rintro e w3 ⟨rfl, hF3⟩
  have K3 := Lib.hid (K2.out.trans hF3 (fun _ _ e => e))
  clear hF3
  go_wp2_with fail
  refine (H4.out _).mono ?_
  rintro e w4 ⟨rfl, hF4⟩
  have K4 := Lib.hid (K3.out.trans hF4 (fun _ _ e => e))
  clear hF4
  go_wp2_with fail
  refine (H5.out _).mono ?_
  rintro e w5 ⟨rfl, hF5⟩
  have K5 := Lib.hid (K4.out.trans hF5 (fun _ _ e => e))
  clear hF5
  go_wp2_with fail
  go_ret
  exact ⟨rfl, K5.out⟩
set_option maxHeartbeats 4000000 in
theorem targets_walk {cl : Tx → Tx × Int} (HP : PathP cl) (w : World) (s t : ByteArray) (hs : s.size ≤ maxLen) (ht : t.size ≤ 1099511627776) : Calls Try.prog 4 #[.string s, .string t] w (TrueW w) := by
  obtain ⟨r, hr⟩ : ∃ r, r = targetL s.toList t.toList := ⟨_, rfl⟩
  obtain ⟨X, hX⟩ : ∃ X, X = tx r.1 := ⟨_, rfl⟩
  obtain ⟨z, hz⟩ : ∃ z, z = r.2 := ⟨_, rfl⟩
  have H1 := Lib.hid (fun wx => ansX (X := X) (z := z) (HP.target wx s t hs ht) (by rw [hX, hr]) (by rw [hz, hr]))
  have H2 := Lib.hid (fun wx => ansX (X := X) (z := z) (rtarget wx s t hs ht) (by rw [hX, hr]) (by rw [hz, hr]))
  have H5 := Lib.hid (fun wx => works_any HP wx)
  clear HP hr hX hz hs ht
  go_enter Try.func4, Try.ntmps4
  go_wp2_with fail
  refine (H1.out _).mono ?_
  rintro e w1 ⟨rfl, hF1⟩
  have K1 := Lib.hid hF1
  clear hF1
  go_wp2_with fail
  refine (H2.out _).mono ?_
  rintro e w2 ⟨rfl, hF2⟩
  have K2 := Lib.hid (K1.out.trans hF2 (fun _ _ e => e))
  clear hF2
  go_wp2_with fail
  refine (H5.out _).mono ?_
  rintro e w5 ⟨rfl, hF5⟩
  have K5 := Lib.hid (K2.out.trans hF5 (fun _ _ e => e))
  clear hF5
  go_wp2_with fail
  go_ret
  exact ⟨rfl, K5.out⟩
set_option maxHeartbeats 4000000 in
theorem parts_walk {cl : Tx → Tx × Int} (HP : PathP cl) (w : World) (s t : ByteArray) (hs : s.size ≤ 1099511627776) (ht : t.size ≤ 1099511627776) : Calls Try.prog 5 #[.string s, .string t] w (TrueW w) := by
  have hs9 : s.size ≤ maxLen := by unfold maxLen; omega
  obtain ⟨X1, hX1⟩ : ∃ X, X = tx (parentL s.toList) := ⟨_, rfl⟩
  obtain ⟨X2, hX2⟩ : ∃ X, X = tx (baseL s.toList) := ⟨_, rfl⟩
  obtain ⟨X3, hX3⟩ : ∃ X, X = tx (joinT s.toList t.toList) := ⟨_, rfl⟩
  obtain ⟨u, hu⟩ : ∃ u, u = underT s.toList t.toList := ⟨_, rfl⟩
  obtain ⟨L, hL⟩ : ∃ L, L = allL s.toList := ⟨_, rfl⟩
  have P1 := Lib.hid (fun wx => HP.parent wx s hs)
  have R1 := Lib.hid (fun wx => rparent wx s hs9)
  have P2 := Lib.hid (fun wx => HP.base wx s hs)
  have R2 := Lib.hid (fun wx => rbase wx s hs9)
  have P3 := Lib.hid (fun wx => HP.join wx s t (by unfold maxLen; omega))
  have R3 := Lib.hid (fun wx => rjoin wx s t (by unfold maxLen; omega))
  have P4 := Lib.hid (fun wx => HP.under wx s t (by omega) (by omega))
  have R4 := Lib.hid (fun wx => runder wx s t (by unfold maxLen; omega))
  have P5 := Lib.hid (fun wx => HP.all wx s hs)
  have R5 := Lib.hid (fun wx => rall wx s hs)
  have HW := Lib.hid (fun wx => works_any HP wx)
  have HLL := Lib.hid (show L.length ≤ 140737488351232 by
    rw [hL]
    unfold allL
    by_cases e : s.toList = []
    · rw [if_pos e]; exact Nat.zero_le _
    · rw [if_neg e, List.length_map, List.length_range]
      have := (split_len (c := 47) (l := s.toList)).2
      rw [toL_len] at this
      omega)
  rw [← hX1] at P1 R1
  rw [← hX2] at P2 R2
  rw [← hX3] at P3 R3
  rw [← hu] at P4 R4
  rw [← hL] at P5 R5
  clear HP hX1 hX2 hX3 hu hL hs ht hs9
  go_enter Try.func5, Try.ntmps5
  go_wp2_with fail
  refine (P1.out _).mono ?_
  rintro e w1 ⟨rfl, hF1⟩
  have K1 := Lib.hid hF1
  clear hF1
  go_wp2_with fail
  refine (R1.out _).mono ?_
  rintro e w2 ⟨rfl, rfl⟩
  go_wp2_with fail
  refine (P2.out _).mono ?_
  rintro e w2 ⟨rfl, hF2⟩
  have K2 := Lib.hid (K1.out.trans hF2 (fun _ _ e => e))
  clear hF2
  go_wp2_with fail
  refine (R2.out _).mono ?_
  rintro e w3 ⟨rfl, rfl⟩
  go_wp2_with fail
  refine (P3.out _).mono ?_
  rintro e w3 ⟨rfl, hF3⟩
  have K3 := Lib.hid (K2.out.trans hF3 (fun _ _ e => e))
  clear hF3
  go_wp2_with fail
  refine (R3.out _).mono ?_
  rintro e w4 ⟨rfl, rfl⟩
  go_wp2_with fail
  refine (P4.out _).mono ?_
  rintro e w4 ⟨rfl, hF4⟩
  have K4 := Lib.hid (K3.out.trans hF4 (fun _ _ e => e))
  clear hF4
  go_wp2_with fail
  refine (R4.out _).mono ?_
  rintro e w5 ⟨rfl, rfl⟩
  go_wp2_with fail
  refine (P5.out _).mono ?_
  rintro e w5 ⟨A1, c1, rfl, ho1, hF5⟩
  have K5 := Lib.hid (⟨K4.out.trans hF5 (fun _ _ e => e), ho1.rd⟩ : Fr (fun _ => False) w w5 ∧ RdS w5 w5.heap.size A1 L)
  clear hF5 ho1
  go_wp2_with fail
  refine (R5.out _).mono ?_
  rintro e w6 ⟨A2, c2, rfl, ho2, hF6⟩
  have K6 := Lib.hid (⟨K5.out.1.trans hF6 (fun _ _ e => e), K5.out.2.still hF6 (Nat.le_refl _), ho2.rd⟩ : Fr (fun _ => False) w w6 ∧ RdS w6 w5.heap.size A1 L ∧ RdS w6 w6.heap.size A2 L)
  clear hF6 ho2
  have HS := Lib.hid (same_texts w6 A1 A2 _ _ c1 c2 L L K6.out.2.1 K6.out.2.2 HLL.out)
  rw [decide_eq_true (rfl : L = L)] at HS
  go_wp2_with fail
  refine HS.out.mono ?_
  rintro e w7 ⟨rfl, nd, rfl⟩
  go_wp2_with fail
  refine (HW.out _).mono ?_
  rintro e w8 ⟨rfl, hF8⟩
  have K8 := Lib.hid ((K6.out.1.drewN nd).trans hF8 (fun _ _ e => e))
  clear hF8
  go_wp2_with fail
  go_ret
  exact ⟨rfl, K8.out⟩
set_option maxHeartbeats 4000000 in
theorem stays_walk {cl : Tx → Tx × Int} (HP : PathP cl) (w : World) (s : ByteArray) (hs : s.size ≤ maxLen) : Calls Try.prog 6 #[.string s] w (TrueW w) := by
  have HW := Lib.hid (fun wx => works_any HP wx)
  obtain ⟨⟨a, z⟩, hr⟩ : ∃ r, cl s.toList = r := ⟨_, rfl⟩
  obtain ⟨X, hX⟩ : ∃ X, X = tx a := ⟨_, rfl⟩
  have H1 := Lib.hid (fun wx => ansX (X := X) (z := z) (HP.clean wx s hs) (by rw [hX, hr]) (by rw [hr]))
  have hXl : X.toList = a := by rw [hX]; exact tx_toL a
  by_cases h0 : z = 0
  case neg =>
    have hz : (z != 0) = true := bne_iff_ne.2 h0
    have ha : X.toList = [] := by rw [hXl]; exact (HP.no hr h0).1
    clear HP hr hX hXl h0 hs
    go_enter Try.func6, Try.ntmps6
    go_wp2_with fail
    refine (HW.out _).mono ?_
    rintro e w1 ⟨rfl, hF1⟩
    have K1 := Lib.hid hF1
    clear hF1
    go_wp2_with fail
    refine (H1.out _).mono ?_
    rintro e w2 ⟨rfl, hF2⟩
    have K2 := Lib.hid (K1.out.trans hF2 (fun _ _ e => e))
    clear hF2
    go_wp2_with fail
    go_ret
    exact ⟨rfl, K2.out⟩
  case pos =>
    subst h0
    obtain ⟨hk, hq⟩ := HP.ok hr
    have hXs : X.size ≤ maxLen := by rw [hX, tx_size]; unfold maxLen; have := okT_len hk; omega
    have H2 := Lib.hid (fun wx => HP.check wx X hXs)
    rw [hXl, checkZ_ok hk] at H2
    obtain ⟨⟨b, y⟩, hr2⟩ : ∃ r, cl a = r := ⟨_, rfl⟩
    obtain ⟨Y, hY⟩ : ∃ Y, Y = tx b := ⟨_, rfl⟩
    have H3 := Lib.hid (fun wx => ansX (X := Y) (z := y) (HP.clean wx X hXs) (by rw [hY, hXl, hr2]) (by rw [hXl, hr2]))
    by_cases ha : a = []
    · have hXe : X.toList = [] := by rw [hXl]; exact ha
      clear HP hr hX hXl hs hk hq hXs hr2 hY ha
      go_enter Try.func6, Try.ntmps6
      go_wp2_with fail
      refine (HW.out _).mono ?_
      rintro e w1 ⟨rfl, hF1⟩
      have K1 := Lib.hid hF1
      clear hF1
      go_wp2_with fail
      refine (H1.out _).mono ?_
      rintro e w2 ⟨rfl, hF2⟩
      have K2 := Lib.hid (K1.out.trans hF2 (fun _ _ e => e))
      clear hF2
      go_wp2_with fail
      refine (H2.out _).mono ?_
      rintro e w3 ⟨rfl, hF3⟩
      have K3 := Lib.hid (K2.out.trans hF3 (fun _ _ e => e))
      clear hF3
      go_wp2_with fail
      refine (H3.out _).mono ?_
      rintro e w4 ⟨rfl, hF4⟩
      have K4 := Lib.hid (K3.out.trans hF4 (fun _ _ e => e))
      clear hF4
      go_wp2_with fail
      go_ret
      exact ⟨rfl, K4.out⟩
    · have hXe := isE (show X.toList ≠ [] by rw [hXl]; exact ha)
      have h2 := hq.resolve_left ha
      rw [hr2] at h2
      obtain ⟨rfl, rfl⟩ := Prod.mk.inj h2
      obtain rfl : Y = X := by rw [hX, hY]
      clear HP hr hX hXl hs hk hq hXs hr2 hY ha h2
      go_enter Try.func6, Try.ntmps6
      go_wp2_with fail
      refine (HW.out _).mono ?_
      rintro e w1 ⟨rfl, hF1⟩
      have K1 := Lib.hid hF1
      clear hF1
      go_wp2_with fail
      refine (H1.out _).mono ?_
      rintro e w2 ⟨rfl, hF2⟩
      have K2 := Lib.hid (K1.out.trans hF2 (fun _ _ e => e))
      clear hF2
      go_wp2_with fail
      refine (H2.out _).mono ?_
      rintro e w3 ⟨rfl, hF3⟩
      have K3 := Lib.hid (K2.out.trans hF3 (fun _ _ e => e))
      clear hF3
      go_wp2_with fail
      refine (H3.out _).mono ?_
      rintro e w4 ⟨rfl, hF4⟩
      have K4 := Lib.hid (K3.out.trans hF4 (fun _ _ e => e))
      clear hF4
      go_wp2_with fail
      go_ret
      exact ⟨rfl, K4.out⟩
set_option maxHeartbeats 4000000 in
theorem in_walk {cl : Tx → Tx × Int} (HP : PathP cl) (w : World) (s t : ByteArray) (hs : s.size ≤ maxLen) (ht : t.size ≤ 1099511627776) : Calls Try.prog 8 #[.string s, .string t] w (TrueW w) := by
  have HW := Lib.hid (fun wx => works_any HP wx)
  obtain ⟨⟨a, z⟩, hr⟩ : ∃ r, targetL s.toList t.toList = r := ⟨_, rfl⟩
  obtain ⟨X, hX⟩ : ∃ X, X = tx a := ⟨_, rfl⟩
  have H1 := Lib.hid (fun wx => ansX (X := X) (z := z) (HP.target wx s t hs ht) (by rw [hX, hr]) (by rw [hr]))
  have hXl : X.toList = a := by rw [hX]; exact tx_toL a
  by_cases h0 : z = 0
  case neg =>
    obtain ⟨ha1, rfl⟩ := target_no hr h0
    have ha : X.toList = [] := by rw [hXl]; exact ha1
    clear HP hr hX hXl h0 hs ha1 ht
    go_enter Try.func8, Try.ntmps8
    go_wp2_with fail
    refine (HW.out _).mono ?_
    rintro e w1 ⟨rfl, hF1⟩
    have K1 := Lib.hid hF1
    clear hF1
    go_wp2_with fail
    refine (H1.out _).mono ?_
    rintro e w2 ⟨rfl, hF2⟩
    have K2 := Lib.hid (K1.out.trans hF2 (fun _ _ e => e))
    clear hF2
    go_wp2_with fail
    go_ret
    exact ⟨rfl, K2.out⟩
  case pos =>
    subst h0
    obtain ⟨hk1, hk2, h2⟩ := target_in hr
    have hal := okT_len hk2
    have hXs : X.size ≤ maxLen := by rw [hX, tx_size]; unfold maxLen; omega
    have hX2 : X.size ≤ 200 := by rw [hX, tx_size]; exact hal
    have H2 := Lib.hid (fun wx => HP.check wx X hXs)
    rw [hXl, checkZ_ok hk2] at H2
    have hsl : ((⟨#[47]⟩ : ByteArray) ++ X).toList = 47 :: a := by
      rw [tx_app]
      refine (tx_toL _).trans ?_
      rw [hXl, show (⟨#[47]⟩ : ByteArray).toList = [47] from tx_toL [47]]
      rfl
    have H3 := Lib.hid (fun wx => ansX (X := X) (z := 0) (HP.target wx s (⟨#[47]⟩ ++ X) hs (by rw [← toL_len, hsl, List.length_cons]; omega)) (by rw [hsl, h2]; exact hX) (by rw [hsl, h2]))
    clear HP hr hX hXl hs ht hk1 hk2 h2 hXs hsl hal
    go_enter Try.func8, Try.ntmps8
    go_wp2_with fail
    refine (HW.out _).mono ?_
    rintro e w1 ⟨rfl, hF1⟩
    have K1 := Lib.hid hF1
    clear hF1
    go_wp2_with fail
    refine (H1.out _).mono ?_
    rintro e w2 ⟨rfl, hF2⟩
    have K2 := Lib.hid (K1.out.trans hF2 (fun _ _ e => e))
    clear hF2
    go_wp2_with fail
    refine (H3.out _).mono ?_
    rintro e w3 ⟨rfl, hF3⟩
    have K3 := Lib.hid (K2.out.trans hF3 (fun _ _ e => e))
    clear hF3
    go_wp2_with fail
    refine (H2.out _).mono ?_
    rintro e w4 ⟨rfl, hF4⟩
    have K4 := Lib.hid (K3.out.trans hF4 (fun _ _ e => e))
    clear hF4
    go_wp2_with fail
    go_ret
    exact ⟨rfl, K4.out⟩
end Go.Proofs.Ytldlonkaedjdpaa.pt
