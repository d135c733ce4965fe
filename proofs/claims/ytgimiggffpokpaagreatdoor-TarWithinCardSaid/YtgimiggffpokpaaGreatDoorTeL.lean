/-
  The program's members and Read.
-/
import Derived.Test.YtgimiggffpokpaaGreatDoorTeK
namespace Go.Proofs.YtgimiggffpokpaaGreatDoor.ta
set_option maxRecDepth 100000
open Go.RowKit Go.Maps Go.Deep
open Go.Proofs.YtgimiggffpokpaaGreatDoor.pt (Tx tx tx_toL tx_size toL toL_len)
open Go.Proofs.YtgimiggffpokpaaGreatDoor.he (Bts Hd hdV sV DT parseV emptyV)
set_option maxRecDepth 100000

/-! ### an archive, member by member -/
theorem step_len {x y : Nx} {out l : List En} {b : Bts} {n : Nat} (hs : stepV x out b = .inr (y, l, n)) : 512 ≤ n ∧ n ≤ b.length := by
  unfold stepV at hs
  dsimp only at hs
  split at hs
  · cases hs
  split at hs
  · cases hs
  rename_i hl
  split at hs
  · split at hs
    · cases hs
    · cases hs; omega
  split at hs
  · split at hs
    · cases hs
    · split at hs
      · cases hs
      · cases hs; omega
  split at hs
  · split at hs
    · cases hs; omega
    · cases hs
  · cases hs; omega
theorem step_err {x : Nx} {out : List En} {b : Bts} {z : Int} (hs : stepV x out b = .inl z) : z ≠ 0 := by
  unfold stepV at hs
  dsimp only at hs
  split at hs
  · rename_i hp; cases hs; exact hp
  split at hs
  · cases hs; decide
  split at hs
  · split at hs
    · cases hs; decide
    · cases hs
  split at hs
  · split at hs
    · cases hs; decide
    · split at hs
      · cases hs; decide
      · cases hs
  split at hs
  · split at hs
    · cases hs
    · cases hs; assumption
  · cases hs
theorem readF_fuel : ∀ (f g : Nat) (x : Nx) (out : List En) (b : Bts), b.length / 512 < f → b.length / 512 < g → readF f x out b = readF g x out b
  | 0, g, x, out, b, hf, _ => absurd hf (Nat.not_lt_zero _)
  | f + 1, 0, x, out, b, _, hg => absurd hg (Nat.not_lt_zero _)
  | f + 1, g + 1, x, out, b, hf, hg => by
    unfold readF
    by_cases h1 : b.length < 512
    · rw [if_pos h1, if_pos h1]
    rw [if_neg h1, if_neg h1]
    by_cases h2 : emptyV (b.take 512) = true
    · rw [if_pos h2, if_pos h2]
    rw [if_neg h2, if_neg h2]
    cases hs : stepV x out b with
    | inl z => rfl
    | inr q =>
      obtain ⟨y, l, n⟩ := q
      obtain ⟨h3, h4⟩ := step_len hs
      exact readF_fuel f g y l (b.drop n) (by rw [List.length_drop]; omega) (by rw [List.length_drop]; omega)
/-- What is read behind some members. -/
def ReI (b0 : Bts) (x : Nx) (out : List En) (b : Bts) : Prop := readV b0 = readF (b.length / 512 + 1) x out b
theorem ReI.start (b : Bts) : ReI b nx0 [] b := rfl
section
variable {b0 b : Bts} {x : Nx} {out : List En}
theorem ReI.short (h : ReI b0 x out b) (hl : b.length < 512) : readV b0 = ([], 7) := by
  unfold ReI at h
  rw [h]
  unfold readF
  rw [if_pos hl]
theorem ReI.stop (h : ReI b0 x out b) (hl : ¬ b.length < 512) (he : emptyV (b.take 512) = true) : readV b0 = if x.is = true then ([], 150) else (out, 0) := by
  unfold ReI at h
  rw [h]
  unfold readF
  rw [if_neg hl, if_pos he]
theorem ReI.bad (h : ReI b0 x out b) (hl : ¬ b.length < 512) (he : emptyV (b.take 512) = false) {z : Int} (hs : stepV x out b = .inl z) : readV b0 = ([], z) := by
  unfold ReI at h
  rw [h]
  unfold readF
  rw [if_neg hl, if_neg (by rw [he]; decide), hs]
theorem ReI.next (h : ReI b0 x out b) (hl : ¬ b.length < 512) (he : emptyV (b.take 512) = false) {y : Nx} {l : List En} {n : Nat} (hs : stepV x out b = .inr (y, l, n)) : ReI b0 y l (b.drop n) := by
  unfold ReI at h ⊢
  obtain ⟨h3, h4⟩ := step_len hs
  rw [h]
  conv => lhs; unfold readF
  rw [if_neg hl, if_neg (by rw [he]; decide), hs]
  exact readF_fuel _ _ _ _ _ (by rw [List.length_drop]; omega) (by omega)
end
/-- How many bytes are left of a reader. -/
def leftN (w : World) (R : Nat) : Nat := match w.cell? ⟨R, 2, none⟩ with
  | some v => slLen v
  | none => 0
theorem TR.left {w0 w : World} {R c : Nat} {lw : List Tx} {wt : Bool} {A : Option Addr} {b : Bts} {out : List En} {x : Nx} (h : TR w0 w R lw wt A c b out x) : leftN w R = b.length := by
  obtain ⟨Aw, cw, Ae, ce, h1, _, _, _⟩ := h.st
  unfold leftN
  rw [(rd_cells h1).2.2.1]
  rfl
/-- What members answers and leaves. -/
def MsA (w0 : World) (R : Nat) (b0 : Bts) (e : Ending) (w' : World) : Prop :=
  ((∃ z, z ≠ 0 ∧ readV b0 = ([], z) ∧ e = .returned (.int .i64 z)) ∨ (∃ out A c, readV b0 = (out, 0) ∧ e = .returned (.int .i64 0) ∧ w'.cell? ⟨R, 3, none⟩ = some (.slice A out.length c) ∧ OwnE w' w0.heap.size (.slice A out.length c) out)) ∧ Fr (fun i => w0.heap.size ≤ i) w0 w'
set_option maxHeartbeats 16000000 in
theorem pmembers (w0 w : World) (hD : DT w0) (R : Nat) (A0 : Option Addr) (c0 : Nat) (b0 : Bts) (H : TR w0 w R [] false A0 c0 b0 [] nx0) (hb : b0.length ≤ 140737488351232) :
    Calls Tryz.prog 11 #[.pointer (some ⟨R, 0, none⟩)] w (MsA w0 R b0) := by
  have HD := Lib.hid hD
  have HH := Lib.hid H
  clear hD H
  go_enter Tryz.func11, Tryz.ntmps11
  go_wp2_with fail
  go_loopw [3, 4, 5, 11, 14, 24] (fun _ _ _ _ _ _ wr => Hid (∃ lw wt A c b out x, TR w0 wr R lw wt A c b out x ∧ ReI b0 x out b ∧ b.length ≤ b0.length)) (fun _ _ _ _ _ _ wr => leftN wr R)
  case atStart => exact Lib.hid ⟨_, _, _, _, _, _, _, HH.out, ReI.start b0, Nat.le_refl _⟩
  case round =>
    obtain ⟨lw, wt, A, c, b, out, x, hT, hI, hbl⟩ := hrel.out
    have HT := Lib.hid hT
    have HI := Lib.hid hI
    obtain ⟨n, hn⟩ : ∃ n, n = b.length := ⟨_, rfl⟩
    have HN := Lib.hid hn
    obtain ⟨Aw, cw, Ae, ce, hR, hOw, hOe, hnil⟩ := hT.st
    have hLN := hT.left
    rw [← hn] at hR hLN hbl
    have hcap : n ≤ c := by rw [hn]; exact hT.cap
    clear hrel HH
    by_cases hs : n < 512
    · have HTN := Lib.hid (ptake_no wr R _ _ _ A n c 512 hR hs)
      rw [show ((512 : Nat) : Int) = 512 from rfl] at HTN
      have HEND := Lib.hid (show MsA w0 R b0 (.returned (.int .i64 7)) wr from ⟨Or.inl ⟨7, by decide, hI.short (by omega), rfl⟩, hT.fr⟩)
      clear hT hI hn hR hOw hOe hnil hLN hcap hs
      go_wp2_with fail
      refine HTN.out.mono ?_
      rintro e w' ⟨rfl, rfl⟩
      go_wp2_with fail
      go_ret
      exact HEND.out
    · have hbne : b ≠ [] := by intro e; rw [e] at hn; simp at hn; omega
      obtain ⟨blk, off, hA, hblk, _⟩ := hT.rd hbne
      subst hA
      have HTO := Lib.hid (ptake_ok wr R _ _ _ blk off n c 512 hR (by omega) hcap)
      rw [show ((512 : Nat) : Int) = 512 from rfl] at HTO
      obtain ⟨o2, ho2⟩ := rest_some blk off c 512
      rw [ho2] at HTO
      obtain ⟨wT, hwT⟩ : ∃ wT, wT = wr.setCell ⟨R, 2, none⟩ (.slice (some ⟨blk, o2, none⟩) (n - 512) (c - 512)) := ⟨_, rfl⟩
      rw [← hwT] at HTO
      have hFT : Fr (fun i => w0.heap.size ≤ i) wr wT := by rw [hwT]; exact (Fr.refl _ _).setCell (p := ⟨R, 2, none⟩) (Or.inl hT.le) _
      have hTM : TR w0 wT R lw wt (some ⟨blk, o2, none⟩) (c - 512) (b.drop 512) out x := by
        rw [hwT]
        exact hT.move (by rw [List.length_drop, hn]) (by rw [← ho2]; exact rest_rd hT.rd hT.cap) (by rw [List.length_drop]; have := hT.cap; omega) (by have := hT.cm; omega)
      have hBK : Rd wT w0.heap.size (some ⟨blk, off, none⟩) (b.take 512) := low_kept (hT.rd.take 512) hT.fr.size hFT
      have hl5 : (b.take 512).length = 512 := by rw [List.length_take]; omega
      have HEM := Lib.hid (fun wx (hF : Fr (fun _ => False) wT wx) => he.head_all.empty wx (some ⟨blk, off, none⟩) c (b.take 512) ((hBK.still hF hTM.fr.size).more (hTM.still hF).fr.size) (fun e => by cases e) (by rw [hl5]; omega) (by rw [hl5]; omega) (DT.on HD.out (hTM.still hF).fr) hT.cm)
      rw [hl5] at HEM
      have HTM := Lib.hid hTM
      have HBK := Lib.hid hBK
      obtain ⟨hi, hhi⟩ : ∃ hi, hi = n - 512 := ⟨_, rfl⟩
      have hnl : ¬ b.length < 512 := by omega
      have h512c : 512 ≤ c := by omega
      have HNL := Lib.hid (⟨hnl, h512c, hbl, hn⟩ : _ ∧ _ ∧ _ ∧ _)
      have HLN := Lib.hid hLN
      clear hT hI hn hR hOw hOe hnil hLN hcap hs hbne hblk hwT hFT hTM hBK hl5 ho2 hnl h512c hhi
      cases hem : emptyV (b.take 512) with
      | true =>
        rw [hem] at HEM
        have HRE := Lib.hid (HI.out.stop HNL.out.1 hem)
        clear hem
        cases wt with
        | true =>
          have HEND := Lib.hid (fun wx (hF : Fr (fun _ => False) wT wx) => (show MsA w0 R b0 (.returned (.int .i64 150)) wx from ⟨Or.inl ⟨150, by decide, by rw [HRE.out, if_pos HTM.out.xw.is], rfl⟩, (HTM.out.still hF).fr⟩))
          go_wp2_with fail
          refine HTO.out.mono ?_
          rintro e w' ⟨rfl, hw⟩
          rw [hw]
          clear hw
          go_wp2_with fail
          refine (HEM.out wT (Fr.refl _ _)).mono ?_
          rintro e w2 ⟨rfl, hF2⟩
          obtain ⟨Aw, cw, Ae, ce, hR2, _, _, _⟩ := (HTM.out.still hF2).st
          obtain ⟨r0, r1, r2, r3, _, _, _, _⟩ := rd_cells hR2
          have HF2 := Lib.hid hF2
          clear hR2 hF2
          go_wp2_with fail
          go_ret
          exact HEND.out _ HF2.out
        | false =>
          have HEND := Lib.hid (fun wx (hF : Fr (fun _ => False) wT wx) => (show MsA w0 R b0 (.returned (.int .i64 0)) wx from by
            obtain ⟨Aw, cw, Ae, ce, hR2, _, hOe2, _⟩ := (HTM.out.still hF).st
            refine ⟨Or.inr ⟨out, Ae, ce, ?_, rfl, (rd_cells hR2).2.2.2.1, hOe2⟩, (HTM.out.still hF).fr⟩
            rw [HRE.out, if_neg]
            rw [HTM.out.xw.is]
            decide))
          go_wp2_with fail
          refine HTO.out.mono ?_
          rintro e w' ⟨rfl, hw⟩
          rw [hw]
          clear hw
          go_wp2_with fail
          refine (HEM.out wT (Fr.refl _ _)).mono ?_
          rintro e w2 ⟨rfl, hF2⟩
          obtain ⟨Aw, cw, Ae, ce, hR2, _, _, _⟩ := (HTM.out.still hF2).st
          obtain ⟨r0, r1, r2, r3, _, _, _, _⟩ := rd_cells hR2
          have HF2 := Lib.hid hF2
          clear hR2 hF2
          go_wp2_with fail
          refine (HEM.out w2 HF2.out).mono ?_
          rintro e w3 ⟨rfl, hF3⟩
          have HF3 := Lib.hid (HF2.out.trans hF3 (fun _ _ e => e))
          clear hF3 r0 r1 r2 r3
          go_wp2_with fail
          go_ret
          exact HEND.out _ HF3.out
      | false =>
        rw [hem] at HEM
        have HMB := Lib.hid (fun wx (hF : Fr (fun _ => False) wT wx) => pmember w0 wx HD.out R blk o2 (c - 512) lw wt b out x (HTM.out.still hF) (by have := HNL.out.1; omega) ⟨blk, off, none⟩ c (HBK.out.still hF HTM.out.fr.size) HNL.out.2.1)
        have HEMP := Lib.hid hem
        clear hem
        go_wp2_with fail
        refine HTO.out.mono ?_
        rintro e w' ⟨rfl, hw⟩
        rw [hw]
        clear hw
        go_wp2_with fail
        refine (HEM.out wT (Fr.refl _ _)).mono ?_
        rintro e w2 ⟨rfl, hF2⟩
        have HF2 := Lib.hid hF2
        clear hF2
        go_wp2_with fail
        refine (HEM.out w2 HF2.out).mono ?_
        rintro e w3 ⟨rfl, hF3⟩
        have HF3 := Lib.hid (HF2.out.trans hF3 (fun _ _ e => e))
        clear hF3
        go_wp2_with fail
        refine (HMB.out w3 HF3.out).mono ?_
        intro e w4 hP
        rcases hP with ⟨z, hst, rfl, hF4⟩ | ⟨y, l, m, hst, rfl, lw2, wt2, A2, c2, hT2⟩
        · have hz := step_err hst
          have q1 : (z == 0) = false := beq_eq_false_iff_ne.2 hz
          have q2 : (z != 0) = true := bne_iff_ne.2 hz
          have HEND := Lib.hid (show MsA w0 R b0 (.returned (.int .i64 z)) w4 from ⟨Or.inl ⟨z, hz, HI.out.bad HNL.out.1 HEMP.out hst, rfl⟩, hF4⟩)
          clear hst hF4 hz
          go_wp2_with fail
          go_ret
          exact HEND.out
        · have HNX := Lib.hid (HI.out.next HNL.out.1 HEMP.out hst)
          have HSL := Lib.hid (step_len hst)
          have HT2 := Lib.hid hT2
          clear hst hT2
          go_wp2_with fail
          go_roundw
          case rel => exact Lib.hid ⟨_, _, _, _, _, _, _, HT2.out, HNX.out, by rw [List.length_drop]; have := HNL.out.2.2; omega⟩
          case measure =>
            have h1 := HT2.out.left
            rw [List.length_drop] at h1
            have h2 := HLN.out
            have h3 := HSL.out
            have h4 := HNL.out.2.2.2
            rw [h1, h2]
            omega
theorem fr_false {w w' : World} (h : Fr (fun i => w.heap.size ≤ i) w w') : Fr (fun _ => False) w w' := h.mono (fun i hi e => by have e : w.heap.size ≤ i := e; omega)
set_option maxHeartbeats 4000000 in
theorem pread (w : World) (A : Option Addr) (cap : Nat) (b : Bts) (hr : Rd w w.heap.size A b) (hc : b.length ≤ cap) (hm : cap ≤ maxLen) (hb : b.length ≤ 140737488351232) (hD : DT w) : Calls Tryz.prog 5 #[.slice A b.length cap] w (NewE w (readV b)) := by
  obtain ⟨n, hn⟩ : ∃ n, n = b.length := ⟨_, rfl⟩
  rw [← hn]
  obtain ⟨wA, hwA⟩ : ∃ wA, wA = w.alloc (rdC (.slice none 0 0) (.bool false) (.slice A n cap) (.slice none 0 0)) := ⟨_, rfl⟩
  have hF : Fr (fun _ => False) w wA := by rw [hwA]; exact (Fr.refl _ w).alloc _
  have HT : TR w wA w.heap.size [] false A cap b [] nx0 := ⟨hF.mono (fun _ _ e => e.elim), Nat.le_refl _, ⟨none, 0, none, 0, by rw [hwA, hn]; exact heap_alloc_new _ _, World.ownsRow_nil wA w.heap.size 9 1, World.ownsRow_nil wA w.heap.size 30 4, fun _ => ⟨rfl, rfl⟩⟩, hr.still hF (Nat.le_refl _), hc, Or.inl ⟨rfl, rfl, rfl⟩, ⟨fun v hv => (by cases hv), Nat.zero_le _, rfl⟩, Nat.zero_le _, fun o ho => (by cases ho), hm⟩
  have HM := Lib.hid (pmembers w wA hD w.heap.size A cap b HT hb)
  have HWA := Lib.hid hwA
  clear hr hc hm hb hD hn hwA hF HT
  go_enter Tryz.func5, Tryz.ntmps5
  go_upto_region 2 with fail
  rw [← HWA.out]
  go_wp2_with fail
  refine HM.out.mono ?_
  intro e w2 hP
  obtain ⟨hP, hF2⟩ := hP
  rcases hP with ⟨z, hz, hv, rfl⟩ | ⟨out, Ae, ce, hv, rfl, hc3, hO⟩
  · have q1 : (z == 0) = false := beq_eq_false_iff_ne.2 hz
    have q2 : (z != 0) = true := bne_iff_ne.2 hz
    have HEND := Lib.hid (show NewE w (readV b) (.returned (.tuple #[.slice none 0 0, .int .i64 z])) w2 from by rw [hv]; exact ⟨none, 0, rfl, World.ownsRow_nil w2 w.heap.size 30 4, fr_false hF2⟩)
    clear hv hF2 hz
    go_wp2_with fail
    go_ret2
    exact HEND.out
  · have HEND := Lib.hid (show NewE w (readV b) (.returned (.tuple #[.slice Ae out.length ce, .int .i64 0])) w2 from by rw [hv]; exact ⟨Ae, ce, rfl, hO, fr_false hF2⟩)
    clear hv hF2 hO
    go_wp2_with fail
    go_ret2
    exact HEND.out
end Go.Proofs.YtgimiggffpokpaaGreatDoor.ta
