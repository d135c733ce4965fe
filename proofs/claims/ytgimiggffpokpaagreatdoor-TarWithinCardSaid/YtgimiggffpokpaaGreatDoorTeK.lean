/-
  The program's member.
-/
import Derived.Test.YtgimiggffpokpaaGreatDoorJG
namespace Go.Proofs.YtgimiggffpokpaaGreatDoor.ta
set_option maxRecDepth 100000
open Go.RowKit Go.Maps Go.Deep
open Go.Proofs.YtgimiggffpokpaaGreatDoor.pt (Tx tx tx_toL tx_size toL toL_len underT cleanL targetL OwnS RdS ss)
open Go.Proofs.YtgimiggffpokpaaGreatDoor.he (Bts Hd hdV sV DT parseV emptyV parse_within five_set)
set_option maxRecDepth 100000

theorem fr_of {w0 w w' : World} {S : Nat → Prop} (h : Fr (fun i => w0.heap.size ≤ i) w0 w) (hF : Fr S w w') (hS : ∀ i, S i → w0.heap.size ≤ i) : Fr (fun i => w0.heap.size ≤ i) w0 w' := h.trans hF (fun i _ e => hS i e)
/-- What enter makes of a member. -/
theorem mb_enter {w0 wM w2 : World} {R c N : Nat} {A : Option Addr} {x : Nx} {b data : Bts} {out : List En} {h h' : Hd} {e : Ending} (hT : TR w0 wM R [] false A c (b.drop N) out nx0)
    (hs : stepV x out b = match entV h data out with
      | (none, z) => if z = 0 then .inr (nx0, out, N) else .inl z
      | (some y, _) => .inr (nx0, out ++ [y], N)) (he : entV h' data out = entV h data out) (h1 : 0 ≤ h'.mode) (h2 : h'.mode ≤ 4095)
    (hE : EnA wM w0.heap.size R (.slice none 0 0) (.bool false) (.slice A (b.drop N).length c) out (entV h' data out) e w2) : MbA w0 R x out b e w2 := by
  have hT2 := hT.enter (entV_some h1 h2) hE
  obtain ⟨h3, hF, _⟩ := hE
  rw [he] at h3 hT2
  cases hv : entV h data out with
  | mk y z =>
    rw [hv] at h3 hT2 hs
    cases y with
    | none =>
      by_cases hz : z = 0
      · rw [show (match ((none : Option En), z) with | (none, z) => if z = 0 then (Sum.inr (nx0, out, N) : Int ⊕ (Nx × List En × Nat)) else Sum.inl z | (some y, _) => Sum.inr (nx0, out ++ [y], N)) = Sum.inr (nx0, out, N) from if_pos hz] at hs
        exact Or.inr ⟨_, _, _, hs, by rw [h3]; show Ending.returned (.int .i64 z) = _; rw [hz], _, _, _, _, hT2⟩
      · rw [show (match ((none : Option En), z) with | (none, z) => if z = 0 then (Sum.inr (nx0, out, N) : Int ⊕ (Nx × List En × Nat)) else Sum.inl z | (some y, _) => Sum.inr (nx0, out ++ [y], N)) = Sum.inl z from if_neg hz] at hs
        exact Or.inl ⟨z, hs, h3, fr_of hT.fr hF (fun _ e => e)⟩
    | some y =>
      have hz := entV_zero hv
      exact Or.inr ⟨_, _, _, hs, by rw [h3]; show Ending.returned (.int .i64 z) = _; rw [hz], _, _, _, _, hT2⟩
set_option maxHeartbeats 32000000 in
theorem pmember (w0 w : World) (hD : DT w0) (R blk off c : Nat) (lw : List Tx) (wt : Bool) (b : Bts) (out : List En) (x : Nx) (H : TR w0 w R lw wt (some ⟨blk, off, none⟩) c (b.drop 512) out x) (hb5 : 512 ≤ b.length) (ad : Addr) (bc : Nat) (hB : Rd w w0.heap.size (some ad) (b.take 512)) (hbc : 512 ≤ bc) :
    Calls Tryz.prog 20 #[.pointer (some ⟨R, 0, none⟩), .slice (some ad) 512 bc] w (MbA w0 R x out b) := by
  have hl5 : (b.take 512).length = 512 := by rw [List.length_take]; omega
  obtain ⟨⟨h0, z0⟩, hp⟩ : ∃ q, parseV (b.take 512) = q := ⟨_, rfl⟩
  have HPA := Lib.hid (he.head_all.parse w (some ad) bc (b.take 512) (hB.more H.fr.size) (fun e => by cases e) (by omega) (by omega) (DT.on hD H.fr))
  rw [hl5, hp] at HPA
  obtain ⟨hh, hhh⟩ : ∃ hh, hh = withN x h0 := ⟨_, rfl⟩
  obtain ⟨rest, hrest⟩ : ∃ rest, rest = b.drop 512 := ⟨_, rfl⟩
  obtain ⟨f, hf⟩ : ∃ f, f = fullN hh.size := ⟨_, rfl⟩
  have HST := Lib.hid (fun data (hdat : data = rest.take hh.size.toNat) => stepV_of (out := out) hp hhh hrest hdat hf hb5)
  rw [← hrest] at H
  have HH := Lib.hid H
  obtain ⟨N0, hN0⟩ : ∃ N0, N0 = tx h0.name := ⟨_, rfl⟩
  obtain ⟨L0, hL0⟩ : ∃ L0, L0 = tx h0.link := ⟨_, rfl⟩
  obtain ⟨m0, hm0⟩ : ∃ m0, m0 = h0.mode := ⟨_, rfl⟩
  obtain ⟨s0, hs0⟩ : ∃ s0, s0 = h0.size := ⟨_, rfl⟩
  obtain ⟨k0, hk0⟩ : ∃ k0, k0 = h0.kind.toNat := ⟨_, rfl⟩
  have HPA := Lib.hid (show Calls Tryz.prog 30 #[.slice (some ad) 512 bc] w fun e w' => e = .returned (.tuple #[.agg #[.string N0, .string L0, .int .i64 m0, .int .i64 s0, .int .u8 (k0 : Int)], .int .i64 z0]) ∧ Fr (fun _ => False) w w' from by rw [hN0, hL0, hm0, hs0, hk0]; exact HPA.out)
  by_cases hz : z0 = 0
  case neg =>
    have HEND := Lib.hid (fun wx (hF : Fr (fun _ => False) w wx) => (show MbA w0 R x out b (.returned (.int .i64 z0)) wx from Or.inl ⟨z0, by rw [HST.out _ rfl, if_pos hz], rfl, fr_of HH.out.fr hF (fun _ e => e.elim)⟩))
    have q1 : (z0 == 0) = false := beq_eq_false_iff_ne.2 hz
    have q2 : (z0 != 0) = true := bne_iff_ne.2 hz
    clear hl5 hp hhh hrest hf H hN0 hL0 hm0 hs0 hk0 hz hB hD hb5 hbc
    go_enter Tryz.func20, Tryz.ntmps20
    go_wp2_with fail
    refine HPA.out.mono ?_
    rintro e w1 ⟨rfl, hF1⟩
    have HF1 := Lib.hid (fun o => hF1.alloc o)
    clear hF1
    go_wp2_with fail
    go_ret
    exact HEND.out _ (HF1.out _)
  subst hz
  obtain ⟨b1, b2, b3, b4, b5, b6, b7, b8⟩ := parse_within hp
  have hbd := with_bd (H.xw.bd H.ws.1) b2 b3 b6 b7
  rw [← hhh] at hbd
  obtain ⟨d1, d2, d3, d4, d5, d6⟩ := hbd
  obtain ⟨N1, hN1⟩ : ∃ N1, N1 = tx hh.name := ⟨_, rfl⟩
  obtain ⟨L1, hL1⟩ : ∃ L1, L1 = tx hh.link := ⟨_, rfl⟩
  obtain ⟨sz, hsz⟩ : ∃ sz : Nat, hh.size = (sz : Int) := ⟨hh.size.toNat, by omega⟩
  have hm1 : m0 = hh.mode := by rw [hm0, d6]
  have hk1 : k0 = hh.kind.toNat := by rw [hk0, d5]
  obtain ⟨xx, hxx⟩ : ∃ xx, xx = if h0.kind = 120 ∨ h0.kind = 103 then x else nx0 := ⟨_, rfl⟩
  have hkk : ∀ q : UInt8, h0.kind = q ↔ k0 = q.toNat := fun q => by rw [hk0]; exact ⟨fun e => by rw [e], fun e => UInt8.toNat_inj.1 e⟩
  have k120 : h0.kind = 120 ↔ k0 = 120 := hkk 120
  have k103 : h0.kind = 103 ↔ k0 = 103 := hkk 103
  have k50 : h0.kind = 50 ↔ k0 = 50 := hkk 50
  have k53 : h0.kind = 53 ↔ k0 = 53 := hkk 53
  have k48 : h0.kind = 48 ↔ k0 = 48 := hkk 48
  obtain ⟨n, hn⟩ : ∃ n, n = rest.length := ⟨_, rfl⟩
  have hsf : sz ≤ f := by rw [hf, hsz]; unfold fullN; rw [Int.toNat_natCast]; omega
  have hf6 : f ≤ 262656 := by rw [hf]; unfold fullN; omega
  have hff : f = fullN (sz : Int) := by rw [hf, hsz]
  have hsz6 : sz ≤ 262144 := by omega
  have hHC : hdC hh = .cells #[.string N1, .string L1, .int .i64 m0, .int .i64 (sz : Int), .int .u8 (k0 : Int)] 57 := by rw [hN1, hL1, hm1, hk1, ← hsz]
  obtain ⟨data, hdata⟩ : ∃ data, data = rest.take sz := ⟨_, rfl⟩
  have HSV := Lib.hid (HST.out data (by rw [hdata, hsz, Int.toNat_natCast]))
  rw [if_neg (show ¬ ((0 : Int) ≠ 0) from fun e => e rfl), ← hn] at HSV
  have hcap : n ≤ c := by rw [hn]; exact H.cap
  have HFI := Lib.hid (fun wx => pfilled wx sz (by omega))
  rw [← hff] at HFI
  have HMO := Lib.hid (⟨by omega, by omega, by omega⟩ : 0 ≤ hh.mode ∧ hh.mode ≤ 4095 ∧ m0 ≤ 4095)
  have HNM := Lib.hid (⟨hN1, hL1, hm1, hsz, hk1, hn, hdata, hhh, hrest, hxx, hff⟩ : _ ∧ _ ∧ _ ∧ _ ∧ _ ∧ _ ∧ _ ∧ _ ∧ _ ∧ _ ∧ _)
  have HN0 := Lib.hid (⟨hN0, hL0, hm0, hs0, hk0⟩ : _ ∧ _ ∧ _ ∧ _ ∧ _)
  have HKK := Lib.hid (⟨k120, k103, k50, k53, k48, d5⟩ : _ ∧ _ ∧ _ ∧ _ ∧ _ ∧ _)
  have HDB := Lib.hid (⟨d1, d2⟩ : _ ∧ _)
  have HHC := Lib.hid hHC
  have hstl := HSV.out
  have HB5 := Lib.hid (⟨hb5, by rw [← hrest]⟩ : 512 ≤ b.length ∧ b.drop 512 = rest)
  clear hl5 hp hf hN0 hL0 hm0 hs0 hk0 hB hD hb5 hbc b1 b2 b3 b4 b5 b6 b7 b8 d1 d2 d3 d4 d5 d6 hN1 hL1 hsz hm1 hk1 hkk k120 k103 k50 k53 k48 hn hdata hHC H HST hhh hrest hxx hff
  go_enter Tryz.func20, Tryz.ntmps20
  go_wp2_with fail
  refine HPA.out.mono ?_
  rintro e w1 ⟨rfl, hF1⟩
  obtain ⟨wA, hwA⟩ : ∃ wA, wA = w1.alloc (.cells #[.string N0, .string L0, .int .i64 m0, .int .i64 s0, .int .u8 (k0 : Int)] 57) := ⟨_, rfl⟩
  obtain ⟨g5, hg5⟩ : ∃ g5, g5 = w1.heap.size := ⟨_, rfl⟩
  have HTA := Lib.hid (show TR w0 wA R lw wt (some ⟨blk, off, none⟩) c rest out x from by rw [hwA]; exact (HH.out.still hF1).still ((Fr.refl _ _).alloc _))
  have HGA := Lib.hid (show wA.heap[g5]? = some (.cells #[.string N0, .string L0, .int .i64 m0, .int .i64 s0, .int .u8 (k0 : Int)] 57) from by rw [hwA, hg5]; exact heap_alloc_new _ _)
  have HG0 := Lib.hid (show w0.heap.size ≤ g5 from by rw [hg5]; exact Nat.le_trans HH.out.fr.size hF1.size)
  obtain ⟨c0, c1, c2, c3, c4, p0, p1, p2, p3, p4⟩ := five_cells HGA.out
  have HWA := Lib.hid (⟨hwA, hg5⟩ : _ ∧ _)
  clear hF1 hwA hg5 hstl HPA
  go_upto_region 4 with fail
  rw [← HWA.out.1, ← HWA.out.2]
  rcases (show k0 = 120 ∨ k0 = 103 ∨ (k0 ≠ 120 ∧ k0 ≠ 103) by omega) with hk | hk | ⟨hk1, hk3⟩
  · have hk2 : h0.kind = 120 ∨ h0.kind = 103 := Or.inl (HKK.out.1.2 hk)
    have q1 : ((k0 : Int) == 120) = true := by rw [hk]; rfl
    have q2 : ((k0 : Int) != 120) = false := by rw [hk]; rfl
    have q3 : ((k0 : Int) == 50) = false := by rw [hk]; rfl
    have q4 : ((k0 : Int) == 53) = false := by rw [hk]; rfl
    have q5 : ((k0 : Int) == 48) = false := by rw [hk]; rfl
    obtain rfl : s0 = (sz : Int) := by rw [HN0.out.2.2.2.1, ← HNM.out.2.2.2.1, HNM.out.2.2.2.2.2.2.2.1, with_same hk2]
    have HT := Lib.hid HTA.out
    go_wp2_with fail
    obtain ⟨Aw, cw, Ae, ce, hR, hOw, hOe, hnil⟩ := HT.out.st
    have hRn : wA.heap[R]? = some (rdC (.slice Aw lw.length cw) (.bool wt) (.slice (some ⟨blk, off, none⟩) n c) (.slice Ae out.length ce)) := by rw [HNM.out.2.2.2.2.2.1]; exact hR
    have HG := Lib.hid (show wA.heap[g5]? = some (.cells #[.string N1, .string L1, .int .i64 m0, .int .i64 (sz : Int), .int .u8 (k0 : Int)] 57) from by
      rw [← HHC.out, HNM.out.2.2.2.2.2.2.2.1, with_same hk2]
      have := HGA.out
      rw [HN0.out.1, HN0.out.2.1, HN0.out.2.2.1, HN0.out.2.2.2.1, HN0.out.2.2.2.2] at this
      exact this)
    clear c0 c1 c2 c3 c4 p0 p1 p2 p3 p4
    by_cases hlt : n < f
    case pos =>
      have HTN := Lib.hid (ptake_no wA R _ _ _ (some ⟨blk, off, none⟩) n c f hRn hlt)
      have HEND := Lib.hid (show MbA w0 R x out b (.returned (.int .i64 7)) wA from Or.inl ⟨7, by rw [HSV.out, if_pos hlt], rfl, HT.out.fr⟩)
      clear hR hOw hOe hnil hRn hlt
      refine (HFI.out _).mono ?_
      rintro e w' ⟨rfl, rfl⟩
      go_wp2_with fail
      refine HTN.out.mono ?_
      rintro e w' ⟨rfl, rfl⟩
      go_wp2_with fail
      go_ret
      exact HEND.out
    have HTO := Lib.hid (ptake_ok wA R _ _ _ blk off n c f hRn (by omega) hcap)
    have hneg := HT.out.ne_head HG.out
    obtain ⟨wT, hwT⟩ : ∃ wT, wT = wA.setCell ⟨R, 2, none⟩ (.slice (restA blk off c f) (n - f) (c - f)) := ⟨_, rfl⟩
    rw [← hwT] at HTO
    have hFT : Fr (fun i => w0.heap.size ≤ i) wA wT := by rw [hwT]; exact (Fr.refl _ _).setCell (p := ⟨R, 2, none⟩) (Or.inl HT.out.le) _
    have HTM := Lib.hid (show TR w0 wT R lw wt (restA blk off c f) (c - f) (b.drop (512 + f)) out x from by
      rw [hwT, ← List.drop_drop, HB5.out.2]
      exact HT.out.move (by rw [List.length_drop, HNM.out.2.2.2.2.2.1]) (rest_rd HT.out.rd HT.out.cap) (by rw [List.length_drop, ← HNM.out.2.2.2.2.2.1]; omega) (by have := HT.out.cm; omega))
    have HGT := Lib.hid (show wT.heap[g5]? = some (.cells #[.string N1, .string L1, .int .i64 m0, .int .i64 (sz : Int), .int .u8 (k0 : Int)] 57) from by rw [hwT, Below.heap_setCell _ _ _ _ (Ne.symm hneg)]; exact HG.out)
    have HDA := Lib.hid (show Rd wT w0.heap.size (some ⟨blk, off, none⟩) data from by rw [HNM.out.2.2.2.2.2.2.1]; exact low_kept (HT.out.rd.take sz) HT.out.fr.size hFT)
    have HDL := Lib.hid (show data.length = sz from by rw [HNM.out.2.2.2.2.2.2.1, List.length_take, ← HNM.out.2.2.2.2.2.1]; omega)
    have hlt2 : ¬ n < f := hlt
    have HS2 := Lib.hid (show stepV x out b = _ from by rw [HSV.out, if_neg hlt2])
    obtain ⟨c0, c1, c2, c3, c4, p0, p1, p2, p3, p4⟩ := five_cells HGT.out
    have j1 : (0 : Int) ≤ (sz : Int) := by omega
    have j2 : (sz : Int) ≤ (c : Int) := by omega
    have j3 : sz ≤ c := by omega
    clear hR hOw hOe hnil hRn hneg hwT hFT hlt hlt2
    obtain ⟨Aw, cw, Ae, ce, hR, hOw, hOe, hnil⟩ := HTM.out.st
    have HTE := Lib.hid (ptell wT R _ _ _ _ hR (some ⟨blk, off, none⟩) c data (HDA.out.more HTM.out.fr.size) (by rw [HDL.out]; exact j3) (by rw [HDL.out]; omega))
    rw [HDL.out] at HTE
    have HTT := Lib.hid (fun w2 (hF : Fr (fun i => i = R) wT w2) L y Al cl hb2 hO2 hm hL => HTM.out.told (w2 := w2) hR hOe hF (L := L) (y := y) (Al := Al) (cl := cl) hb2 hO2 hm hL)
    have HKI := Lib.hid (⟨show ¬ hh.kind = 103 from fun e => by have := HNM.out.2.2.2.2.1; rw [e, hk] at this; revert this; decide, show hh.kind = 120 from UInt8.toNat_inj.1 (by rw [← HNM.out.2.2.2.2.1, hk]; rfl)⟩ : _ ∧ _)
    clear hR hOw hOe hnil hk hk2
    refine (HFI.out _).mono ?_
    rintro e w' ⟨rfl, rfl⟩
    go_wp2_with fail
    refine HTO.out.mono ?_
    rintro e w' ⟨rfl, hw⟩
    rw [hw]
    clear hw HTO
    go_wp2_with fail
    refine HTE.out.mono ?_
    intro e w2 hP
    have HS3 := Lib.hid (show stepV x out b = _ from by rw [HS2.out, if_neg HKI.out.1, if_pos HKI.out.2])
    rcases hP with ⟨hbad, rfl, hF2⟩ | ⟨L, y, Al, cl, hrc, hm, rfl, hF2, hb2, hO2⟩
    · have HEND := Lib.hid (show MbA w0 R x out b (.returned (.int .i64 150)) w2 from Or.inl ⟨150, by
        rw [HS3.out]
        rcases hbad with e | ⟨L, e1, e2⟩
        · rw [e]
        · rw [e1]; dsimp only; rw [e2], rfl, fr_of HTM.out.fr hF2 (fun _ e => e.elim)⟩)
      clear hbad hF2
      go_wp2_with fail
      go_ret
      exact HEND.out
    · have HEND := Lib.hid (show MbA w0 R x out b (.returned (.int .i64 0)) w2 from Or.inr ⟨y, out, 512 + f, by rw [HS3.out, hrc]; dsimp only; rw [hm], rfl, L, true, _, _, HTT.out w2 hF2 L y Al cl hb2 hO2 hm ⟨fun v hv => by have := recs_len hrc v hv; rw [HDL.out] at this; omega, by have := (recs_even hrc).2; rw [HDL.out] at this; omega, even_len (recs_even hrc).1⟩⟩)
      clear hrc hm hF2 hb2 hO2
      go_wp2_with fail
      go_ret
      exact HEND.out
  · have hk2 : h0.kind = 120 ∨ h0.kind = 103 := Or.inr (HKK.out.2.1.2 hk)
    have q1 : ((k0 : Int) == 120) = false := by rw [hk]; rfl
    have q2 : ((k0 : Int) != 120) = true := by rw [hk]; rfl
    have q6 : ((k0 : Int) == 103) = true := by rw [hk]; rfl
    have q7 : ((k0 : Int) != 103) = false := by rw [hk]; rfl
    have q3 : ((k0 : Int) == 50) = false := by rw [hk]; rfl
    have q4 : ((k0 : Int) == 53) = false := by rw [hk]; rfl
    have q5 : ((k0 : Int) == 48) = false := by rw [hk]; rfl
    obtain rfl : s0 = (sz : Int) := by rw [HN0.out.2.2.2.1, ← HNM.out.2.2.2.1, HNM.out.2.2.2.2.2.2.2.1, with_same hk2]
    have HT := Lib.hid HTA.out
    go_wp2_with fail
    obtain ⟨Aw, cw, Ae, ce, hR, hOw, hOe, hnil⟩ := HT.out.st
    have hRn : wA.heap[R]? = some (rdC (.slice Aw lw.length cw) (.bool wt) (.slice (some ⟨blk, off, none⟩) n c) (.slice Ae out.length ce)) := by rw [HNM.out.2.2.2.2.2.1]; exact hR
    have HG := Lib.hid (show wA.heap[g5]? = some (.cells #[.string N1, .string L1, .int .i64 m0, .int .i64 (sz : Int), .int .u8 (k0 : Int)] 57) from by
      rw [← HHC.out, HNM.out.2.2.2.2.2.2.2.1, with_same hk2]
      have := HGA.out
      rw [HN0.out.1, HN0.out.2.1, HN0.out.2.2.1, HN0.out.2.2.2.1, HN0.out.2.2.2.2] at this
      exact this)
    clear c0 c1 c2 c3 c4 p0 p1 p2 p3 p4
    by_cases hlt : n < f
    case pos =>
      have HTN := Lib.hid (ptake_no wA R _ _ _ (some ⟨blk, off, none⟩) n c f hRn hlt)
      have HEND := Lib.hid (show MbA w0 R x out b (.returned (.int .i64 7)) wA from Or.inl ⟨7, by rw [HSV.out, if_pos hlt], rfl, HT.out.fr⟩)
      clear hR hOw hOe hnil hRn hlt
      refine (HFI.out _).mono ?_
      rintro e w' ⟨rfl, rfl⟩
      go_wp2_with fail
      refine HTN.out.mono ?_
      rintro e w' ⟨rfl, rfl⟩
      go_wp2_with fail
      go_ret
      exact HEND.out
    have HTO := Lib.hid (ptake_ok wA R _ _ _ blk off n c f hRn (by omega) hcap)
    have hneg := HT.out.ne_head HG.out
    obtain ⟨wT, hwT⟩ : ∃ wT, wT = wA.setCell ⟨R, 2, none⟩ (.slice (restA blk off c f) (n - f) (c - f)) := ⟨_, rfl⟩
    rw [← hwT] at HTO
    have hFT : Fr (fun i => w0.heap.size ≤ i) wA wT := by rw [hwT]; exact (Fr.refl _ _).setCell (p := ⟨R, 2, none⟩) (Or.inl HT.out.le) _
    have HTM := Lib.hid (show TR w0 wT R lw wt (restA blk off c f) (c - f) (b.drop (512 + f)) out x from by
      rw [hwT, ← List.drop_drop, HB5.out.2]
      exact HT.out.move (by rw [List.length_drop, HNM.out.2.2.2.2.2.1]) (rest_rd HT.out.rd HT.out.cap) (by rw [List.length_drop, ← HNM.out.2.2.2.2.2.1]; omega) (by have := HT.out.cm; omega))
    have HGT := Lib.hid (show wT.heap[g5]? = some (.cells #[.string N1, .string L1, .int .i64 m0, .int .i64 (sz : Int), .int .u8 (k0 : Int)] 57) from by rw [hwT, Below.heap_setCell _ _ _ _ (Ne.symm hneg)]; exact HG.out)
    have HDA := Lib.hid (show Rd wT w0.heap.size (some ⟨blk, off, none⟩) data from by rw [HNM.out.2.2.2.2.2.2.1]; exact low_kept (HT.out.rd.take sz) HT.out.fr.size hFT)
    have HDL := Lib.hid (show data.length = sz from by rw [HNM.out.2.2.2.2.2.2.1, List.length_take, ← HNM.out.2.2.2.2.2.1]; omega)
    have hlt2 : ¬ n < f := hlt
    have HS2 := Lib.hid (show stepV x out b = _ from by rw [HSV.out, if_neg hlt2])
    obtain ⟨c0, c1, c2, c3, c4, p0, p1, p2, p3, p4⟩ := five_cells HGT.out
    have j1 : (0 : Int) ≤ (sz : Int) := by omega
    have j2 : (sz : Int) ≤ (c : Int) := by omega
    have j3 : sz ≤ c := by omega
    clear hR hOw hOe hnil hRn hneg hwT hFT hlt hlt2
    have HKI := Lib.hid (show hh.kind = 103 from UInt8.toNat_inj.1 (by rw [← HNM.out.2.2.2.2.1, hk]; rfl))
    have HRC := Lib.hid (precords wT (some ⟨blk, off, none⟩) c data (HDA.out.more HTM.out.fr.size) (by rw [HDL.out]; exact j3) (by rw [HDL.out]; omega))
    rw [HDL.out] at HRC
    have HS3 := Lib.hid (show stepV x out b = _ from by rw [HS2.out, if_pos HKI.out])
    clear hk hk2
    refine (HFI.out _).mono ?_
    rintro e w' ⟨rfl, rfl⟩
    go_wp2_with fail
    refine HTO.out.mono ?_
    rintro e w' ⟨rfl, hw⟩
    rw [hw]
    clear hw HTO
    go_wp2_with fail
    refine HRC.out.mono ?_
    intro e w2 hP
    obtain ⟨hP, hF2⟩ := hP
    rcases hP with ⟨hrc, rfl⟩ | ⟨L, A1, c1, hrc, rfl, hO⟩
    · have HEND := Lib.hid (show MbA w0 R x out b (.returned (.int .i64 150)) w2 from Or.inl ⟨150, by rw [HS3.out, if_pos ⟨rfl, hrc⟩], rfl, fr_of HTM.out.fr hF2 (fun _ e => e.elim)⟩)
      clear hrc hF2
      go_wp2_with fail
      go_ret
      exact HEND.out
    · have HEND := Lib.hid (show MbA w0 R x out b (.returned (.int .i64 0)) w2 from Or.inr ⟨x, out, 512 + f, by rw [HS3.out, if_neg (show ¬ (words103 = true ∧ recsV data = none) from fun e => by rw [hrc] at e; cases e.2)], rfl, _, _, _, _, HTM.out.still hF2⟩)
      clear hrc hF2 hO
      go_wp2_with fail
      go_ret
      exact HEND.out
  · have hk2 : ¬ (h0.kind = 120 ∨ h0.kind = 103) := fun e => e.elim (fun e => hk1 (HKK.out.1.1 e)) (fun e => hk3 (HKK.out.2.1.1 e))
    have q1 : ((k0 : Int) == 120) = false := beq_eq_false_iff_ne.2 (by omega)
    have q2 : ((k0 : Int) != 120) = true := bne_iff_ne.2 (by omega)
    have q3 : ((k0 : Int) == 103) = false := beq_eq_false_iff_ne.2 (by omega)
    have q4 : ((k0 : Int) != 103) = true := bne_iff_ne.2 (by omega)
    obtain ⟨Aw, cw, Ae, ce, hR, hOw, hOe, _⟩ := HTA.out.st
    have hne := HTA.out.ne_head HGA.out
    have HRS := Lib.hid (OwnS.rd hOw)
    have HO := Lib.hid (fun wx (hF : Fr (fun _ => False) wA wx) => phold wx R Aw cw lw (.bool wt) (.slice (some ⟨blk, off, none⟩) rest.length c) (.slice Ae out.length ce) (keep_blk hR hF) ((HRS.out.still hF (Nat.le_refl _)).more hF.size) (by have := HH.out.ws.2.1; omega) (fun v hv => by have := HH.out.ws.1 v hv; omega) HH.out.ws.2.2 h0)
    have HO := Lib.hid (fun wx hF => (show Calls Tryz.prog 31 #[.pointer (some ⟨R, 0, none⟩), .agg #[.string N0, .string L0, .int .i64 m0, .int .i64 s0, .int .u8 (k0 : Int)]] wx fun e w' => e = .returned (.agg #[.string N1, .string L1, .int .i64 m0, .int .i64 (sz : Int), .int .u8 (k0 : Int)]) ∧ (Fr (fun i => i = R) wx w' ∧ w'.heap[R]? = some (rdC (.slice none 0 0) (.bool false) (.slice (some ⟨blk, off, none⟩) rest.length c) (.slice Ae out.length ce))) from by
      have := HO.out wx hF
      unfold HoA at this
      rw [HH.out.xw.hold h0, ← with_set hk2, ← HNM.out.2.2.2.2.2.2.2.1] at this
      rw [HN0.out.1, HN0.out.2.1, HN0.out.2.2.1, HN0.out.2.2.2.1, HN0.out.2.2.2.2]
      refine this.mono ?_
      rintro e w' ⟨h1, h2, h3⟩
      refine ⟨?_, h2, h3⟩
      rw [h1, ← HN0.out.2.2.1, ← HN0.out.2.2.2.2, HNM.out.1, HNM.out.2.1, HNM.out.2.2.1, HNM.out.2.2.2.2.1, ← HNM.out.2.2.2.1]))
    have HTU := Lib.hid (fun wx w' (hF : Fr (fun _ => False) wA wx) (hF2 : Fr (fun i => i = R) wx w') (hb2 : w'.heap[R]? = some (rdC (.slice none 0 0) (.bool false) (.slice (some ⟨blk, off, none⟩) rest.length c) (.slice Ae out.length ce))) => (⟨(HTA.out.still hF).used (keep_blk hR hF) (hOe.kept hF) hF2 hb2, (hF2.block g5 (Array.getElem?_eq_some_iff.1 (keep_blk HGA.out hF)).1 (fun e => hne e.symm)).trans (keep_blk HGA.out hF)⟩ : TR w0 w' R [] false (some ⟨blk, off, none⟩) c rest out nx0 ∧ w'.heap[g5]? = some (.cells #[.string N0, .string L0, .int .i64 m0, .int .i64 s0, .int .u8 (k0 : Int)] 57)))
    have HXX := Lib.hid (show xx = nx0 from by rw [HNM.out.2.2.2.2.2.2.2.2.2.1, if_neg hk2])
    clear hR hOw hOe hne HRS
    go_upto_region 5 with fail
    go_cut [30] (fun s30 wz => ∃ v, s30 = v ∧ Hid (TR w0 wz R [] false (some ⟨blk, off, none⟩) c rest out nx0 ∧ wz.heap[g5]? = some (hdC hh)))
    case first =>
      go_region_with (go_at_call 31; refine (HO.out _ (by first | exact Fr.refl _ _ | exact (Fr.refl _ _).drew | exact (Fr.refl _ _).drewN _)).mono ?_; rintro e w2 ⟨rfl, hF2, hb2⟩; obtain ⟨hT2, hg2⟩ := HTU.out _ _ (by first | exact Fr.refl _ _ | exact (Fr.refl _ _).drew | exact (Fr.refl _ _).drewN _) hF2 hb2; have HT2 := Lib.hid (⟨hT2, hg2⟩ : _ ∧ _); obtain ⟨e0, e1, e2, e3, e4, f0, f1, f2, f3, f4⟩ := five_cells hg2; clear hF2 hb2 hT2 hg2)
      all_goals
        go_wp2_with fail
        go_meet
        exact ⟨_, rfl, Lib.hid ⟨HT2.out.1.five HT2.out.2 HG0.out, by rw [HHC.out]; exact five_set HT2.out.2⟩⟩
    case rest =>
      obtain ⟨v30, rfl, HC⟩ := hcut
      have HT := Lib.hid HC.out.1
      have HG := Lib.hid (show wc.heap[g5]? = some (.cells #[.string N1, .string L1, .int .i64 m0, .int .i64 (sz : Int), .int .u8 (k0 : Int)] 57) from by rw [← HHC.out]; exact HC.out.2)
      clear HC c0 c1 c2 c3 c4 p0 p1 p2 p3 p4 HO HTU HXX
      obtain ⟨c0, c1, c2, c3, c4, p0, p1, p2, p3, p4⟩ := five_cells HG.out
      go_wp2_with fail
      obtain ⟨Aw, cw, Ae, ce, hR, hOw, hOe, hnil⟩ := HT.out.st
      have hRn : wc.heap[R]? = some (rdC (.slice Aw 0 cw) (.bool false) (.slice (some ⟨blk, off, none⟩) n c) (.slice Ae out.length ce)) := by rw [HNM.out.2.2.2.2.2.1]; exact hR
      clear c0 c1 c2 c3 c4 p0 p1 p2 p3 p4
      by_cases hlt : n < f
      case pos =>
        have HTN := Lib.hid (ptake_no wc R _ _ _ (some ⟨blk, off, none⟩) n c f hRn hlt)
        have HEND := Lib.hid (show MbA w0 R x out b (.returned (.int .i64 7)) wc from Or.inl ⟨7, by rw [HSV.out, if_pos hlt], rfl, HT.out.fr⟩)
        clear hR hOw hOe hnil hRn hlt
        refine (HFI.out _).mono ?_
        rintro e w' ⟨rfl, rfl⟩
        go_wp2_with fail
        refine HTN.out.mono ?_
        rintro e w' ⟨rfl, rfl⟩
        go_wp2_with fail
        go_ret
        exact HEND.out
      have HTO := Lib.hid (ptake_ok wc R _ _ _ blk off n c f hRn (by omega) hcap)
      have hneg := HT.out.ne_head HG.out
      obtain ⟨wT, hwT⟩ : ∃ wT, wT = wc.setCell ⟨R, 2, none⟩ (.slice (restA blk off c f) (n - f) (c - f)) := ⟨_, rfl⟩
      rw [← hwT] at HTO
      have hFT : Fr (fun i => w0.heap.size ≤ i) wc wT := by rw [hwT]; exact (Fr.refl _ _).setCell (p := ⟨R, 2, none⟩) (Or.inl HT.out.le) _
      have HTM := Lib.hid (show TR w0 wT R [] false (restA blk off c f) (c - f) (b.drop (512 + f)) out nx0 from by
        rw [hwT, ← List.drop_drop, HB5.out.2]
        exact HT.out.move (by rw [List.length_drop, HNM.out.2.2.2.2.2.1]) (rest_rd HT.out.rd HT.out.cap) (by rw [List.length_drop, ← HNM.out.2.2.2.2.2.1]; omega) (by have := HT.out.cm; omega))
      have HGT := Lib.hid (show wT.heap[g5]? = some (.cells #[.string N1, .string L1, .int .i64 m0, .int .i64 (sz : Int), .int .u8 (k0 : Int)] 57) from by rw [hwT, Below.heap_setCell _ _ _ _ (Ne.symm hneg)]; exact HG.out)
      have HDA := Lib.hid (show Rd wT w0.heap.size (some ⟨blk, off, none⟩) data from by rw [HNM.out.2.2.2.2.2.2.1]; exact low_kept (HT.out.rd.take sz) HT.out.fr.size hFT)
      have HDL := Lib.hid (show data.length = sz from by rw [HNM.out.2.2.2.2.2.2.1, List.length_take, ← HNM.out.2.2.2.2.2.1]; omega)
      have hlt2 : ¬ n < f := hlt
      have HS2 := Lib.hid (show stepV x out b = _ from by rw [HSV.out, if_neg hlt2])
      obtain ⟨c0, c1, c2, c3, c4, p0, p1, p2, p3, p4⟩ := five_cells HGT.out
      have j1 : (0 : Int) ≤ (sz : Int) := by omega
      have j2 : (sz : Int) ≤ (c : Int) := by omega
      have j3 : sz ≤ c := by omega
      clear hR hOw hOe hnil hRn hneg hwT hFT hlt hlt2
      have HS4 := Lib.hid (show stepV x out b = _ from by rw [HS2.out, if_neg (show ¬ hh.kind = 103 from fun e => hk2 (Or.inr (by rw [← HKK.out.2.2.2.2.2]; exact e))), if_neg (show ¬ hh.kind = 120 from fun e => hk2 (Or.inl (by rw [← HKK.out.2.2.2.2.2]; exact e)))])
      by_cases hk50 : k0 = 50
      case pos =>
        have hkq : k0 = 50 := hk50
        have hK : hh.kind = 50 := (UInt8.toNat_inj.1 (by rw [← HNM.out.2.2.2.2.1, hkq]; rfl) : hh.kind = 50)
        have q5 : ((k0 : Int) == 50) = true := by rw [hkq]; rfl
        have hgR := HTM.out.ne_head HGT.out
        obtain ⟨wM, hwM⟩ : ∃ wM, wM = wT.setCell ⟨g5, 2, none⟩ (.int .i64 511) := ⟨_, rfl⟩
        have HTX := Lib.hid (show TR w0 wM R [] false (restA blk off c f) (c - f) (b.drop (512 + f)) out nx0 from by rw [hwM]; exact HTM.out.cell HGT.out HG0.out 2 _)
        have HGX := Lib.hid (show wM.heap[g5]? = some (.cells #[.string N1, .string L1, .int .i64 511, .int .i64 (sz : Int), .int .u8 (k0 : Int)] 57) from by rw [hwM]; exact rd_set HGT.out 2 _)
        have HDX := Lib.hid (show Rd wM w0.heap.size (some ⟨blk, off, none⟩) data from by rw [hwM]; exact low_kept HDA.out HTM.out.fr.size ((Fr.refl _ _).setCell (p := ⟨g5, 2, none⟩) (Or.inl HG0.out) _))
        obtain ⟨e0, e1, e2, e3, e4, _, _, _, _, _⟩ := five_cells HGX.out
        have HWM := Lib.hid hwM
        clear hwM hgR
        by_cases hs0 : sz = 0
        case neg =>
          have j4 : (0 : Int) < (sz : Int) := by omega
          have hev : entV hh data out = (none, 150) := by unfold entV; rw [if_pos (Or.inr (Or.inl ⟨by rw [hK]; decide, by rw [HNM.out.2.2.2.1]; exact j4⟩))]
          have HEND := Lib.hid (show MbA w0 R x out b (.returned (.int .i64 150)) wM from Or.inl ⟨150, by rw [HS4.out, hev]; rfl, rfl, HTX.out.fr⟩)
          clear hev hK hkq hk50 hs0 hk2
          refine (HFI.out _).mono ?_
          rintro e w' ⟨rfl, rfl⟩
          go_wp2_with fail
          refine HTO.out.mono ?_
          rintro e w' ⟨rfl, hw⟩
          rw [hw]
          clear hw HTO
          go_upto_region 17 with fail
          rw [← HWM.out]
          go_wp2_with fail
          go_ret
          exact HEND.out
        case pos =>
          have j4 : ¬ (0 : Int) < (sz : Int) := by omega
          obtain ⟨Aw, cw, Ae, ce, hR, hOw, hOe, hnil⟩ := HTX.out.st
          obtain ⟨rfl, rfl⟩ := hnil rfl
          have HEN := Lib.hid (penter wM w0.heap.size R (.slice none 0 0) (.bool false) (.slice (restA blk off c f) (b.drop (512 + f)).length (c - f)) Ae ce out { hh with mode := 511 } ⟨blk, off, none⟩ c data ⟨hR, HH.out.le, hOe, HH.out.ol, HH.out.op, by have := HDB.out.1; show hh.name.length ≤ _; omega, by have := HDB.out.2; show hh.link.length ≤ _; omega, Or.inr (Or.inr hK), fun _ => by show hh.size ≤ 0; rw [HNM.out.2.2.2.1]; omega, fun _ => rfl, by rw [HDL.out]; omega, fun _ => List.eq_nil_of_length_eq_zero (by rw [HDL.out]; exact hs0)⟩ ((HDX.out).more HTX.out.fr.size))
          rw [HDL.out] at HEN
          have HEN := Lib.hid (show Calls Tryz.prog 33 #[.pointer (some ⟨R, 0, none⟩), .agg #[.string N1, .string L1, .int .i64 511, .int .i64 (sz : Int), .int .u8 (k0 : Int)], .slice (some ⟨blk, off, none⟩) sz c] wM (EnA wM w0.heap.size R (.slice none 0 0) (.bool false) (.slice (restA blk off c f) (b.drop (512 + f)).length (c - f)) out (entV { hh with mode := 511 } data out)) from by
            have := HEN.out
            rw [HNM.out.1, HNM.out.2.1, ← HNM.out.2.2.2.1, HNM.out.2.2.2.2.1]
            exact this)
          have HME := Lib.hid (fun e w2 (hE : EnA wM w0.heap.size R (.slice none 0 0) (.bool false) (.slice (restA blk off c f) (b.drop (512 + f)).length (c - f)) out (entV { hh with mode := 511 } data out) e w2) => mb_enter (x := x) (h := hh) HTX.out HS4.out (entV_link hK 511 data out) (show (0 : Int) ≤ 511 by decide) (show (511 : Int) ≤ 4095 by decide) hE)
          clear hR hOw hOe
          clear hK hkq hk50 hs0 hk2
          refine (HFI.out _).mono ?_
          rintro e w' ⟨rfl, rfl⟩
          go_wp2_with fail
          refine HTO.out.mono ?_
          rintro e w' ⟨rfl, hw⟩
          rw [hw]
          clear hw HTO
          go_upto_region 17 with fail
          rw [← HWM.out]
          go_wp2_with fail
          refine HEN.out.mono ?_
          intro e w2 hE
          have HEND := Lib.hid (HME.out _ _ hE)
          obtain ⟨he, _⟩ := hE
          subst he
          go_wp2_with fail
          go_ret
          exact HEND.out
      have q50 : ((k0 : Int) == 50) = false := beq_eq_false_iff_ne.2 (by omega)
      by_cases hk53 : k0 = 53
      case pos =>
        have hkq : k0 = 53 := hk53
        have hK : hh.kind = 53 := (UInt8.toNat_inj.1 (by rw [← HNM.out.2.2.2.2.1, hkq]; rfl) : hh.kind = 53)
        have q5 : ((k0 : Int) == 53) = true := by rw [hkq]; rfl
        by_cases hs0 : sz = 0
        case neg =>
          have j4 : (0 : Int) < (sz : Int) := by omega
          have hev : entV hh data out = (none, 150) := by unfold entV; rw [if_pos (Or.inr (Or.inl ⟨by rw [hK]; decide, by rw [HNM.out.2.2.2.1]; exact j4⟩))]
          have HEND := Lib.hid (show MbA w0 R x out b (.returned (.int .i64 150)) wT from Or.inl ⟨150, by rw [HS4.out, hev]; rfl, rfl, HTM.out.fr⟩)
          clear hev hK hkq hk50 hk53 hs0 hk2
          refine (HFI.out _).mono ?_
          rintro e w' ⟨rfl, rfl⟩
          go_wp2_with fail
          refine HTO.out.mono ?_
          rintro e w' ⟨rfl, hw⟩
          rw [hw]
          clear hw HTO
          go_wp2_with fail
          go_ret
          exact HEND.out
        case pos =>
          have j4 : ¬ (0 : Int) < (sz : Int) := by omega
          obtain ⟨Aw, cw, Ae, ce, hR, hOw, hOe, hnil⟩ := HTM.out.st
          obtain ⟨rfl, rfl⟩ := hnil rfl
          have HEN := Lib.hid (penter wT w0.heap.size R (.slice none 0 0) (.bool false) (.slice (restA blk off c f) (b.drop (512 + f)).length (c - f)) Ae ce out hh ⟨blk, off, none⟩ c data ⟨hR, HH.out.le, hOe, HH.out.ol, HH.out.op, by have := HDB.out.1; show hh.name.length ≤ _; omega, by have := HDB.out.2; show hh.link.length ≤ _; omega, Or.inr (Or.inl hK), fun _ => by rw [HNM.out.2.2.2.1]; omega, fun e => by rw [hK] at e; exact absurd e (by decide), by rw [HDL.out]; omega, fun _ => List.eq_nil_of_length_eq_zero (by rw [HDL.out]; exact hs0)⟩ ((HDA.out).more HTM.out.fr.size))
          rw [HDL.out] at HEN
          have HEN := Lib.hid (show Calls Tryz.prog 33 #[.pointer (some ⟨R, 0, none⟩), .agg #[.string N1, .string L1, .int .i64 m0, .int .i64 (sz : Int), .int .u8 (k0 : Int)], .slice (some ⟨blk, off, none⟩) sz c] wT (EnA wT w0.heap.size R (.slice none 0 0) (.bool false) (.slice (restA blk off c f) (b.drop (512 + f)).length (c - f)) out (entV hh data out)) from by
            have := HEN.out
            rw [HNM.out.1, HNM.out.2.1, HNM.out.2.2.1, ← HNM.out.2.2.2.1, HNM.out.2.2.2.2.1]
            exact this)
          have HME := Lib.hid (fun e w2 (hE : EnA wT w0.heap.size R (.slice none 0 0) (.bool false) (.slice (restA blk off c f) (b.drop (512 + f)).length (c - f)) out (entV hh data out) e w2) => mb_enter (x := x) (h := hh) HTM.out HS4.out rfl HMO.out.1 HMO.out.2.1 hE)
          clear hR hOw hOe
          clear hK hkq hk50 hk53 hs0 hk2
          refine (HFI.out _).mono ?_
          rintro e w' ⟨rfl, rfl⟩
          go_wp2_with fail
          refine HTO.out.mono ?_
          rintro e w' ⟨rfl, hw⟩
          rw [hw]
          clear hw HTO
          go_wp2_with fail
          refine HEN.out.mono ?_
          intro e w2 hE
          have HEND := Lib.hid (HME.out _ _ hE)
          obtain ⟨he, _⟩ := hE
          subst he
          go_wp2_with fail
          go_ret
          exact HEND.out
      have q53 : ((k0 : Int) == 53) = false := beq_eq_false_iff_ne.2 (by omega)
      by_cases hk48 : k0 = 48
      case pos =>
        have hkq : k0 = 48 := hk48
        have hK : hh.kind = 48 := (UInt8.toNat_inj.1 (by rw [← HNM.out.2.2.2.2.1, hkq]; rfl) : hh.kind = 48)
        have q5 : ((k0 : Int) == 48) = true := by rw [hkq]; rfl
        obtain ⟨Aw, cw, Ae, ce, hR, hOw, hOe, hnil⟩ := HTM.out.st
        obtain ⟨rfl, rfl⟩ := hnil rfl
        have HEN := Lib.hid (penter wT w0.heap.size R (.slice none 0 0) (.bool false) (.slice (restA blk off c f) (b.drop (512 + f)).length (c - f)) Ae ce out hh ⟨blk, off, none⟩ c data ⟨hR, HH.out.le, hOe, HH.out.ol, HH.out.op, by have := HDB.out.1; show hh.name.length ≤ _; omega, by have := HDB.out.2; show hh.link.length ≤ _; omega, Or.inl hK, fun e => absurd hK e, fun e => by rw [hK] at e; exact absurd e (by decide), by rw [HDL.out]; omega, fun e => absurd hK e⟩ ((HDA.out).more HTM.out.fr.size))
        rw [HDL.out] at HEN
        have HEN := Lib.hid (show Calls Tryz.prog 33 #[.pointer (some ⟨R, 0, none⟩), .agg #[.string N1, .string L1, .int .i64 m0, .int .i64 (sz : Int), .int .u8 (k0 : Int)], .slice (some ⟨blk, off, none⟩) sz c] wT (EnA wT w0.heap.size R (.slice none 0 0) (.bool false) (.slice (restA blk off c f) (b.drop (512 + f)).length (c - f)) out (entV hh data out)) from by
          have := HEN.out
          rw [HNM.out.1, HNM.out.2.1, HNM.out.2.2.1, ← HNM.out.2.2.2.1, HNM.out.2.2.2.2.1]
          exact this)
        have HME := Lib.hid (fun e w2 (hE : EnA wT w0.heap.size R (.slice none 0 0) (.bool false) (.slice (restA blk off c f) (b.drop (512 + f)).length (c - f)) out (entV hh data out) e w2) => mb_enter (x := x) (h := hh) HTM.out HS4.out rfl HMO.out.1 HMO.out.2.1 hE)
        clear hR hOw hOe
        clear hK hkq hk50 hk53 hk48 hk2
        refine (HFI.out _).mono ?_
        rintro e w' ⟨rfl, rfl⟩
        go_wp2_with fail
        refine HTO.out.mono ?_
        rintro e w' ⟨rfl, hw⟩
        rw [hw]
        clear hw HTO
        go_wp2_with fail
        refine HEN.out.mono ?_
        intro e w2 hE
        have HEND := Lib.hid (HME.out _ _ hE)
        obtain ⟨he, _⟩ := hE
        subst he
        go_wp2_with fail
        go_ret
        exact HEND.out
      have q48 : ((k0 : Int) == 48) = false := beq_eq_false_iff_ne.2 (by omega)
      have hev : entV hh data out = (none, 150) := by
        unfold entV
        rw [if_pos (Or.inl ⟨fun e => hk48 (by rw [HNM.out.2.2.2.2.1, e]; rfl), fun e => hk53 (by rw [HNM.out.2.2.2.2.1, e]; rfl), fun e => hk50 (by rw [HNM.out.2.2.2.2.1, e]; rfl)⟩)]
      have HEND := Lib.hid (show MbA w0 R x out b (.returned (.int .i64 150)) wT from Or.inl ⟨150, by rw [HS4.out, hev]; rfl, rfl, HTM.out.fr⟩)
      clear hev hk50 hk53 hk48 hk2
      refine (HFI.out _).mono ?_
      rintro e w' ⟨rfl, rfl⟩
      go_wp2_with fail
      refine HTO.out.mono ?_
      rintro e w' ⟨rfl, hw⟩
      rw [hw]
      clear hw HTO
      go_wp2_with fail
      go_ret
      exact HEND.out
end Go.Proofs.YtgimiggffpokpaaGreatDoor.ta
