/-
  The program's writer at fixed blocks: symbol, bytes, copies.
-/
import Derived.Test.YtcdhakfmljjaoaaGreatDoorFeR
namespace Go.Proofs.YtcdhakfmljjaoaaGreatDoor.ft
set_option maxRecDepth 100000
open Go.RowKit Go.Maps Go.Proofs.YtcdhakfmljjaoaaGreatDoor.fl Go.Proofs.YtcdhakfmljjaoaaGreatDoor.cd
set_option maxRecDepth 100000

/-- Which symbol the program takes for a length. -/
def topK : Nat → Nat → Nat
  | 0, _ => 0
  | k + 1, n => if spanB (k + 1) ≤ n then k + 1 else topK k n
def lsP (n : Nat) : Nat := topK 28 n
theorem lsP_sym : LenSym lsP := by
  have h : ∀ n, n < 259 → 3 ≤ n → lsP n ≤ 28 ∧ spanB (lsP n) ≤ n ∧ n - spanB (lsP n) < 2 ^ spanX (lsP n) := by decide +kernel
  exact fun n h1 h2 => h n (by omega) h1
structure BJ (w0 : World) (g : Nat) (wa cs cd : Addr) (w : World) (L : List Int) : Prop where
  st : ∃ T S1 S2, w.heap[g]? = some (.cells #[.pointer (some wa), .pointer (some cs), .pointer (some cd)] 114 (0, 0)) ∧ PV w wa L T ∧ PC w cs fixI S1 ∧ PC w cd five2 S2 ∧ (∀ i, T i → w0.heap.size ≤ i ∧ i ≠ g ∧ ¬ S1 i ∧ ¬ S2 i)
  g_ : w0.heap.size ≤ g
  fr : Fr (fun _ => False) w0 w
section
variable {w0 w w' : World} {g : Nat} {wa cs cd : Addr} {L L' : List Int}
theorem BJ.still (h : BJ w0 g wa cs cd w L) (hF : Fr (fun _ => False) w w') : BJ w0 g wa cs cd w' L := by
  obtain ⟨T, S1, S2, h1, h2, h3, h4, h5⟩ := h.st
  exact ⟨⟨T, S1, S2, (hF.block _ (lt_of_block h1) id).trans h1, flow_all.v_keep h2 hF (fun _ _ e => e), code_all.c_keep h3 hF (fun _ _ e => e), code_all.c_keep h4 hF (fun _ _ e => e), h5⟩, h.g_, h.fr.trans hF (fun _ _ e => e)⟩
theorem BJ.cells (h : BJ w0 g wa cs cd w L) : w.cell? ⟨g, 0, none⟩ = some (.pointer (some wa)) ∧ w.cell? ⟨g, 1, none⟩ = some (.pointer (some cs)) ∧ w.cell? ⟨g, 2, none⟩ = some (.pointer (some cd)) := by
  obtain ⟨T, S1, S2, h1, _⟩ := h.st
  exact ⟨(cellAt h1 0).trans rfl, (cellAt h1 1).trans rfl, (cellAt h1 2).trans rfl⟩
theorem BJ.moved {T S1 S2 : Nat → Prop} (h : BJ w0 g wa cs cd w L) (h1 : w.heap[g]? = some (.cells #[.pointer (some wa), .pointer (some cs), .pointer (some cd)] 114 (0, 0))) (h3 : PC w cs fixI S1) (h4 : PC w cd five2 S2) (h5 : ∀ i, T i → w0.heap.size ≤ i ∧ i ≠ g ∧ ¬ S1 i ∧ ¬ S2 i) (hv : VAft PV w wa T L' w') : BJ w0 g wa cs cd w' L' := by
  obtain ⟨T', g1, g2, g3⟩ := hv
  have hs := h.fr.size
  refine ⟨⟨T', S1, S2, (g3.block _ (lt_of_block h1) (fun e => (h5 _ e).2.1 rfl)).trans h1, g1, code_all.c_keep h3 g3 (fun i hi e => (h5 i e).2.2.1 hi), code_all.c_keep h4 g3 (fun i hi e => (h5 i e).2.2.2 hi), fun i hi => ?_⟩, h.g_, h.fr.trans g3 (fun i hi e => absurd (h5 i e).1 (by omega))⟩
  rcases g2 i hi with e | e
  · exact h5 i e
  · exact ⟨Nat.le_trans hs e, fun e2 => by have := lt_of_block h1; omega, fun e2 => by have := (code_all.c_in h3).1 i e2; omega, fun e2 => by have := (code_all.c_in h4).1 i e2; omega⟩
theorem sym_fix {n : Nat} (h : n < 288) (L : List Int) : symL fixI (n : Int) L = L ++ wordB fixI n := by
  unfold symL
  have h1 := (fix_len h).1
  have h2 : hasB fixI (n : Int) = true := (hasB_iff fixI (n : Int)).2 ⟨by omega, by have := (List.getElem?_eq_some_iff.1 h1.1).1; omega, by rw [Int.toNat_natCast]; have := h1.2; omega⟩
  rw [if_pos h2, Int.toNat_natCast]
theorem sym_five (L : List Int) : symL five2 0 L = L ++ [0, 0, 0, 0, 0] := by
  have h : hasB five2 0 = true := by decide +kernel
  unfold symL
  rw [if_pos h]
  congr 1
theorem BJ.write (h : BJ w0 g wa cs cd w L) {n : Nat} (hn : n < 288) (hL : L.length ≤ 3900000) (wx : World) (hF : Fr (fun _ => False) w wx) : Calls Tryz.prog 101 #[.pointer (some cs), .pointer (some wa), .int .i64 (n : Int)] wx fun e w' => (∃ v, e = .returned v) ∧ BJ w0 g wa cs cd w' (L ++ wordB fixI n) := by
  have hx := h.still hF
  obtain ⟨T, S1, S2, h1, h2, h3, h4, h5⟩ := hx.st
  refine (code_all.write wx cs fixI S1 wa L T (n : Int) h3 h2 (fun i hi e => (h5 i e).2.2.1 hi) hL (by omega)).mono fun e w' ⟨he, hv⟩ => ⟨⟨_, he⟩, ?_⟩
  rw [sym_fix hn] at hv
  exact hx.moved h1 h3 h4 h5 hv
theorem BJ.far (h : BJ w0 g wa cs cd w L) (hL : L.length ≤ 3900000) (wx : World) (hF : Fr (fun _ => False) w wx) : Calls Tryz.prog 101 #[.pointer (some cd), .pointer (some wa), .int .i64 0] wx fun e w' => (∃ v, e = .returned v) ∧ BJ w0 g wa cs cd w' (L ++ [0, 0, 0, 0, 0]) := by
  have hx := h.still hF
  obtain ⟨T, S1, S2, h1, h2, h3, h4, h5⟩ := hx.st
  refine (code_all.write wx cd five2 S2 wa L T 0 h4 h2 (fun i hi e => (h5 i e).2.2.2 hi) hL (by omega)).mono fun e w' ⟨he, hv⟩ => ⟨⟨_, he⟩, ?_⟩
  rw [sym_five] at hv
  exact hx.moved h1 h3 h4 h5 hv
theorem BJ.put (h : BJ w0 g wa cs cd w L) (n : Int) (k : Nat) (hL : L.length ≤ 3900000) (hn0 : 0 ≤ n) (hk : k ≤ 24) (hn : n < 2 ^ k) (wx : World) (hF : Fr (fun _ => False) w wx) : Calls Tryz.prog 100 #[.pointer (some wa), .int .i64 n, .int .i64 (k : Int)] wx fun e w' => (∃ v, e = .returned v) ∧ BJ w0 g wa cs cd w' (L ++ lowI n k) := by
  have hx := h.still hF
  obtain ⟨T, S1, S2, h1, h2, h3, h4, h5⟩ := hx.st
  exact (put_on (vaft_refl h2) n k (by omega) hn0 hk hn).mono fun e w' ⟨he, hv⟩ => ⟨⟨_, he⟩, hx.moved h1 h3 h4 h5 hv⟩
set_option maxHeartbeats 2000000 in
theorem psymbol (h : BJ w0 g wa cs cd w L) {n : Nat} (hn : n < 288) (hL : L.length ≤ 3900000) : Calls Tryz.prog 83 #[.pointer (some ⟨g, 0, none⟩), .int .i64 (n : Int)] w fun e w' => (∃ v, e = .returned v) ∧ BJ w0 g wa cs cd w' (L ++ wordB fixI n) := by
  have HW := Lib.hid (h.write hn hL)
  obtain ⟨c0, c1, _⟩ := h.cells
  clear h
  go_enter Tryz.func83, Tryz.ntmps83
  go_wp2_with fail
  go_region_with (go_at_call 101; refine (HW.out _ (by first | exact Fr.refl _ _ | exact (Fr.refl _ _).drew | exact (Fr.refl _ _).drewN _)).mono ?_; rintro e w1 ⟨⟨v, rfl⟩, g1⟩; have G1 := Lib.hid g1; clear g1)
  all_goals
    go_wp2_with fail
    go_end0
    exact ⟨⟨_, rfl⟩, G1.out⟩
theorem litW_len (c : UInt8) : (litB c).length ≤ 9 := by
  unfold litB
  rw [wordB_length]
  exact (fix_len (by have := c.toNat_lt; omega)).2.1
theorem litsW_len : ∀ b : By, (b.flatMap litB).length ≤ 9 * b.length
  | [] => by simp
  | c :: b => by
    rw [List.flatMap_cons, List.length_append, List.length_cons]
    have := litW_len c
    have := litsW_len b
    omega
theorem lits_snoc (i : Nat) (c : UInt8) : (List.replicate (i + 1) c).flatMap litB = (List.replicate i c).flatMap litB ++ wordB fixI c.toNat := by
  rw [List.replicate_succ', List.flatMap_append]
  simp [litB]
set_option maxHeartbeats 4000000 in
theorem pbytes_many (h : BJ w0 g wa cs cd w L) (c : UInt8) (n : Nat) (hL : L.length + 9 * n ≤ 3900000) : Calls Tryz.prog 81 #[.pointer (some ⟨g, 0, none⟩), .int .u8 (c.toNat : Int), .int .i64 (n : Int)] w fun e w' => (∃ v, e = .returned v) ∧ BJ w0 g wa cs cd w' (L ++ (List.replicate n c).flatMap litB) := by
  have H0 := Lib.hid h
  have hc := c.toNat_lt
  obtain ⟨x, hx⟩ : ∃ x, x = c.toNat := ⟨_, rfl⟩
  have HX := Lib.hid hx
  rw [← hx] at hc ⊢
  clear h hx
  go_enter Tryz.func81, Tryz.ntmps81
  go_wp2_with fail
  go_loopw [7] (fun v7 wr => ∃ i : Nat, i ≤ n ∧ v7 = .int .i64 i ∧ Hid (BJ w0 g wa cs cd wr (L ++ (List.replicate i c).flatMap litB))) (fun v _ => n - (intOf v).toNat)
  case atStart => exact ⟨0, Nat.zero_le _, rfl, (show BJ w0 g wa cs cd w (L ++ (List.replicate 0 c).flatMap litB) by rw [List.replicate_zero, List.flatMap_nil, List.append_nil]; exact H0.out)⟩
  case round =>
    obtain ⟨i, hi, rfl, HC⟩ := hrel
    by_cases hlt : i < n
    · have HS := Lib.hid (psymbol HC.out (n := x) (by omega) (by
        rw [List.length_append]
        have := litsW_len (List.replicate i c)
        rw [List.length_replicate] at this
        omega))
      have hconv : IntKind.i64.wrap (x : Int) = (x : Int) := IntWalk.i64_in _ (by omega)
      go_wp2_with fail
      refine HS.out.mono ?_
      rintro e w1 ⟨⟨v, rfl⟩, g1⟩
      have H1 := Lib.hid (show BJ w0 g wa cs cd w1 (L ++ (List.replicate (i + 1) c).flatMap litB) by rw [lits_snoc, ← List.append_assoc, ← HX.out]; exact g1)
      clear g1 HS
      go_wp2_with fail
      go_roundw
      case rel => exact ⟨i + 1, by omega, by go_num, H1⟩
      case measure => simp [intOf]; omega
    · obtain rfl : i = n := by omega
      go_wp2_with fail
      go_end0
      exact ⟨⟨_, rfl⟩, HC.out⟩
theorem topK_low : ∀ k n, topK k n ≤ k
  | 0, _ => Nat.le_refl _
  | k + 1, n => by
    rw [topK]
    by_cases h : spanB (k + 1) ≤ n
    · rw [if_pos h]; exact Nat.le_refl _
    · rw [if_neg h]; exact Nat.le_succ_of_le (topK_low k n)
theorem topK_hit {k n : Nat} (h : spanB k ≤ n) : topK k n = k := by
  cases k with
  | zero => rfl
  | succ k => rw [topK, if_pos h]
theorem topK_miss {k n : Nat} (h : ¬ spanB k ≤ n) (h3 : 3 ≤ n) : 0 < k ∧ topK (k - 1) n = topK k n := by
  cases k with
  | zero => exact absurd (show spanB 0 ≤ n from h3) h
  | succ k => rw [topK, if_neg h]; exact ⟨by omega, rfl⟩
set_option maxHeartbeats 4000000 in
theorem pcopies_w (hT : Tabs w0) (h : BJ w0 g wa cs cd w L) (n : Nat) (hn3 : 3 ≤ n) (hn : n ≤ 258) (hL : L.length ≤ 3800000) : Calls Tryz.prog 82 #[.pointer (some ⟨g, 0, none⟩), .int .i64 (n : Int)] w fun e w' => (∃ v, e = .returned v) ∧ BJ w0 g wa cs cd w' (L ++ againB lsP n) := by
  have H0 := Lib.hid h
  obtain ⟨hl1, hl2, hl3⟩ := lsP_sym n hn3 hn
  obtain ⟨k, hk⟩ : ∃ k, k = lsP n := ⟨_, rfl⟩
  have HK := Lib.hid (show topK 28 n = k from hk.symm)
  have HAG := Lib.hid (show againB lsP n = wordB fixI (257 + k) ++ (lowI ((n - spanB k : Nat) : Int) (spanX k) ++ [0, 0, 0, 0, 0]) by unfold againB; rw [hk])
  rw [← hk] at hl1 hl2 hl3
  have HT := Lib.hid hT
  clear h hk hT
  go_enter Tryz.func82, Tryz.ntmps82
  go_wp2_with fail
  go_loopw [4] (fun v4 wr => ∃ i : Nat, i ≤ 28 ∧ v4 = .int .i64 i ∧ topK i n = k ∧ wr = w) (fun v _ => (intOf v).toNat)
  case atStart => exact ⟨28, by omega, rfl, HK.out, rfl⟩
  case round =>
    obtain ⟨i, hi, rfl, htop, rfl⟩ := hrel
    obtain ⟨y0, y1⟩ := (HT.out.keep H0.out.fr).len i (by omega)
    have hi0 : (0 : Int) ≤ (i : Int) := by omega
    have hi9 : (i : Int) < 29 := by omega
    have hsp := span_le (k := i) (by omega)
    by_cases hgt : spanB i ≤ n
    · obtain rfl : i = k := by rw [← htop]; exact (topK_hit hgt).symm
      obtain ⟨fb, hfb⟩ : ∃ fb, fb = spanB i := ⟨_, rfl⟩
      obtain ⟨fx, hfx⟩ : ∃ fx, fx = spanX i := ⟨_, rfl⟩
      have HTB := Lib.hid (show ∀ w1, BJ w0 g wa cs cd w1 (L ++ wordB fixI (257 + i)) → w1.cell? ⟨3, i * 2, none⟩ = some (.int .i64 (fb : Int)) ∧ w1.cell? ⟨3, i * 2 + 1, none⟩ = some (.int .i64 (fx : Int)) from fun w1 hj => by rw [hfb, hfx]; exact (HT.out.keep hj.fr).len i (by omega))
      have hwl := (fix_len (s := 257 + i) (by omega)).2.1
      have HS := Lib.hid (psymbol H0.out (n := 257 + i) (by omega) (by omega))
      rw [← hfb, ← hfx] at HAG hl3
      rw [← hfb] at y0 hgt hsp hl2
      rw [← hfx] at y1 hsp
      have h32 : (2 : Nat) ^ fx ≤ 2 ^ 5 := Nat.pow_le_pow_right (by omega) hsp.1
      have hp32 : ((n - fb : Nat) : Int) < 2 ^ fx := by exact_mod_cast hl3
      have HP := Lib.hid (show ∀ w1, BJ w0 g wa cs cd w1 (L ++ wordB fixI (257 + i)) → _ from fun w1 hj => hj.put ((n - fb : Nat) : Int) fx (by rw [List.length_append, wordB_length]; omega) (by omega) (by omega) hp32)
      have HFR := Lib.hid (show ∀ w1, BJ w0 g wa cs cd w1 (L ++ wordB fixI (257 + i) ++ lowI ((n - fb : Nat) : Int) fx) → _ from fun w1 hj => hj.far (by rw [List.length_append, List.length_append, wordB_length, lowI_length]; omega))
      have hsub : (n : Int) - (fb : Int) = ((n - fb : Nat) : Int) := by omega
      obtain ⟨m, hm⟩ : ∃ m, m = n - fb := ⟨_, rfl⟩
      rw [← hm] at HAG HP HFR hsub
      have hmw : IntKind.i64.wrap (m : Int) = (m : Int) := IntWalk.i64_in _ (by omega)
      obtain ⟨sy, hsy⟩ : ∃ sy, sy = 257 + i := ⟨_, rfl⟩
      rw [← hsy] at HS HTB HP HFR HAG
      have hsi : (257 : Int) + (i : Int) = (sy : Int) := by omega
      have hsw : IntKind.i64.wrap (sy : Int) = (sy : Int) := IntWalk.i64_in _ (by omega)
      have hle : ¬ (n : Int) < (fb : Int) := by omega
      clear hfb hfx hm hsy htop hl3 hp32 HK
      go_wp2_with fail
      refine HS.out.mono ?_
      rintro e w1 ⟨⟨v, rfl⟩, g1⟩
      obtain ⟨c0, c1, c2⟩ := g1.cells
      obtain ⟨t0, t1⟩ := HTB.out _ g1
      have HP1 := Lib.hid (HP.out _ g1)
      clear g1 HP HS
      go_wp2_with fail
      go_region_with (go_at_call 100; refine (HP1.out _ (by first | exact Fr.refl _ _ | exact (Fr.refl _ _).drew | exact (Fr.refl _ _).drewN _)).mono ?_; rintro e w2 ⟨⟨v2, rfl⟩, g2⟩; obtain ⟨d0, d1, d2⟩ := g2.cells; have HF2 := Lib.hid (HFR.out _ g2); clear g2)
      all_goals
        go_wp2_with fail
        go_region_with (go_at_call 101; refine (HF2.out _ (by first | exact Fr.refl _ _ | exact (Fr.refl _ _).drew | exact (Fr.refl _ _).drewN _)).mono ?_; rintro e w3 ⟨⟨v3, rfl⟩, g3⟩; have G3 := Lib.hid g3; clear g3)
        all_goals
          go_wp2_with fail
          go_end0
          exact ⟨⟨_, rfl⟩, by rw [HAG.out, ← List.append_assoc, ← List.append_assoc]; exact G3.out⟩
    · obtain ⟨hpos, hprev⟩ := topK_miss hgt hn3
      obtain ⟨fb, hfb⟩ : ∃ fb, fb = spanB i := ⟨_, rfl⟩
      rw [← hfb] at y0 hgt hsp
      have hgt2 : (n : Int) < (fb : Int) := by omega
      go_wp2_with fail
      go_roundw
      case rel => exact ⟨i - 1, by omega, by go_num, by rw [hprev]; exact htop, by first | rfl | trivial⟩
      case measure => simp [intOf]; omega
end
end Go.Proofs.YtcdhakfmljjaoaaGreatDoor.ft
