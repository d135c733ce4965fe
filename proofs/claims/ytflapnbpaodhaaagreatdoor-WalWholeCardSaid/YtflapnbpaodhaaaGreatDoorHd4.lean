/-
  Commit, of any sectors on any disk.
-/
import Derived.Test.YtflapnbpaodhaaaGreatDoorHd3
namespace Go.Proofs.YtflapnbpaodhaaaGreatDoor.hd
set_option maxRecDepth 100000
open Go.RowKit Go.Maps ds
set_option maxRecDepth 100000

theorem refR_ok {lo hi : Int} {rc : Nat} {l : List (Int × List UInt8)} (h : refR lo hi rc l = 0) : l.length ≤ rc ∧ ∀ x ∈ l, lo ≤ x.1 ∧ x.1 < hi := by
  have key : ∀ (l : List (Int × List UInt8)) (pr : Option Int), badF lo hi pr l = false → ∀ x ∈ l, lo ≤ x.1 ∧ x.1 < hi := by
    intro l
    induction l with
    | nil => intro pr _ x hx; cases hx
    | cons y r ih =>
      intro pr hb x hx
      rw [badF, Bool.or_eq_false_iff, Bool.or_eq_false_iff] at hb
      rcases List.mem_cons.1 hx with rfl | hx
      · have := hb.1.1
        simpa using this
      · exact ih _ hb.2 x hx
  unfold refR at h
  split at h
  · cases h
  · split at h
    · cases h
    · rename_i h1 h2
      exact ⟨by omega, key l none (by simpa using h1)⟩

theorem bks_len {w : World} {p : Option Addr} {l : List (Int × List UInt8)} (h : BksT w p l) : ∀ x ∈ l, x.2.length = 256 := fun x hx => by
  obtain ⟨blk, off, _, _, hc⟩ := h (by rintro rfl; cases hx)
  obtain ⟨i, hi⟩ := List.mem_iff_getElem?.1 hx
  obtain ⟨_, b, o, c, t, _, hl, _⟩ := hc i x hi
  exact hl
theorem stepW_one {w : World} {v : Value} {pb at_ rc n cap : Nat} {p : Option Addr} (h : StepW w v pb at_ rc p n cap) : v.oneCell' = true := by
  obtain ⟨_, _, rfl, _⟩ := h
  rfl
theorem walHeld {w : World} {g pb at_ rc turn : Nat} {sp : Bool} (h : w.heap[g]? = some (walO pb at_ rc turn sp)) : w.cell? ⟨g, 0, none⟩ = some (.pointer (some ⟨pb, 0, none⟩)) ∧ w.cell? ⟨g, 1, none⟩ = some (.int .i64 (at_ : Int)) ∧ w.cell? ⟨g, 2, none⟩ = some (.int .i64 (rc : Int)) := by
  obtain ⟨a, b, c, _⟩ := wal_c h
  exact ⟨a, b, c⟩
set_option maxHeartbeats 8000000 in
theorem commit_any (w0 w : World) (pb N B wb at_ rc t0 : Nat) (d : DS) (sp : Bool) (hD : IsD w0 pb N B d w) (hT : cr.Tab w) (hwb : w.heap[wb]? = some (walO pb at_ rc t0 sp)) (h0 : w0.heap.size ≤ wb) (h2 : rc ≤ 100) (h3 : at_ + rc < N) (h4 : N ≤ 4096) (ht : t0 < 4294967296)
    (p : Option Addr) (cap : Nat) (l : List (Int × List UInt8)) (hS : SlT w p cap l) (hn : l.length ≤ 1000) (hbig : B + 500 ≤ 100000000) :
    Calls Tryz.prog 12 #[.pointer (some ⟨wb, 0, none⟩), .slice p l.length cap] w fun e w' => ∃ l', l'.Perm l ∧ l'.Pairwise (fun a b => a.1 ≤ b.1) ∧ ComPost w0 w pb N B wb at_ rc (comR N at_ rc d t0 sp l') e w' := by
  obtain ⟨zs, hzl, hI, hl, hd⟩ := hS.told
  obtain ⟨n, hn'⟩ : ∃ n, n = l.length := ⟨_, rfl⟩
  rw [← hn'] at hI hn hzl ⊢
  have HM := Lib.hid (madeW_yes w wb pb (wal_c hwb).1)
  have HRI := Lib.hid (sq.rising_any w p cap n zs (by omega) hI)
  have HDD := Lib.hid (⟨hD, hT, hwb, hd, hl⟩ : _ ∧ _ ∧ _ ∧ _ ∧ _)
  clear hI hD hT hwb hl hd hS hn'
  go_enter Tryz.func12, Tryz.ntmps12
  go_wp2_with (go_at_call 32; refine HM.out.mono ?_; rintro e w' ⟨rfl, rfl⟩)
  refine HRI.out.mono ?_
  rintro e w2 ⟨v, ys, rfl, hy⟩
  obtain ⟨p', cap', rfl, hb⟩ := sorted_told hy HDD.out.2.2.2.1
  have hlen : ys.length = n := hy.1.length_eq.trans hzl
  obtain ⟨l', hl'⟩ : ∃ l', l' = ys.map (tell w) := ⟨_, rfl⟩
  have hlen' : n = l'.length := by rw [hl', List.length_map, hlen]
  have HP := Lib.hid (show l'.Perm l ∧ l'.Pairwise (fun a b => a.1 ≤ b.1) by
    rw [hl', HDD.out.2.2.2.2]
    exact ⟨hy.1.map _, List.pairwise_map.2 hy.2.1⟩)
  have hF2 := hy.2.2.2
  rw [← hl'] at hb
  rw [hlen]
  have H2 := Lib.hid (⟨HDD.out.1.calm hF2, HDD.out.2.1.fr hF2, fr_blk hF2 HDD.out.2.2.1, hb, hF2⟩ : IsD w0 pb N B d w2 ∧ cr.Tab w2 ∧ w2.heap[wb]? = some (walO pb at_ rc t0 sp) ∧ BksT w2 p' l' ∧ Fr (fun _ => False) w w2)
  have HLEN := Lib.hid hlen'
  have HRF := Lib.hid (refuses_any w0 w2 pb N B wb at_ rc t0 d sp p' cap' l' ⟨H2.out.2.2.1, H2.out.1, hb, Fr.refl _ _⟩ (by omega) (by omega) (by omega))
  rw [← hlen'] at HRF
  obtain ⟨z, hz⟩ : ∃ z, z = refR ((at_ + 1 + rc : Nat) : Int) N rc l' := ⟨_, rfl⟩
  have HZ := Lib.hid hz
  rw [← hz] at HRF
  have HTW := Lib.hid HDD.out.2.1
  clear hy hlen hl' hlen' hF2 hb hz HRI HM HDD hzl
  go_wp2_with fail
  refine HRF.out.mono ?_
  rintro e w3 ⟨rfl, hF3⟩
  have H3 := Lib.hid (⟨H2.out.1.calm hF3, H2.out.2.1.fr hF3, fr_blk hF3 H2.out.2.2.1, H2.out.2.2.2.1.keep (Keep.of_fr hF3), H2.out.2.2.2.2.trans hF3 (fun _ _ e => e)⟩ : IsD w0 pb N B d w3 ∧ cr.Tab w3 ∧ w3.heap[wb]? = some (walO pb at_ rc t0 sp) ∧ BksT w3 p' l' ∧ Fr (fun _ => False) w w3)
  clear hF3 H2 HRF
  by_cases hz : z = 0
  · subst hz
    by_cases hn0 : n = 0
    · have hn1 : ((n : Int) == 0) = true := by simp [hn0]
      have HR := Lib.hid (show comR N at_ rc d t0 sp l' = (d, 0, t0, sp) by
        unfold comR
        rw [if_neg (by rw [← HZ.out]; simp), if_pos (List.eq_nil_of_length_eq_zero (by rw [← HLEN.out]; exact hn0))])
      clear hn0
      go_wp2_with fail
      go_ret
      exact ⟨l', HP.out.1, HP.out.2, by rw [HR.out]; exact ⟨rfl, isD_big H3.out.1 (by omega) hbig, H3.out.2.2.1, keep_two (Keep.of_fr H3.out.2.2.2.2)⟩⟩
    · have hn1 : ((n : Int) == 0) = false := by simp; omega
      have HN := Lib.hid (show l' ≠ [] by rintro rfl; exact hn0 HLEN.out)
      have c4 := (wal_c H3.out.2.2.1).2.2.2.2
      cases sp with
      | true =>
        have HR := Lib.hid (show comR N at_ rc d t0 true l' = (d, 10, t0, true) by
          unfold comR
          rw [if_neg (by rw [← HZ.out]; simp), if_neg HN.out, if_pos rfl])
        clear hn0
        go_wp2_with fail
        go_ret
        exact ⟨l', HP.out.1, HP.out.2, by rw [HR.out]; exact ⟨rfl, isD_big H3.out.1 (by omega) hbig, H3.out.2.2.1, keep_two (Keep.of_fr H3.out.2.2.2.2)⟩⟩
      | false =>
        obtain ⟨turn, htn⟩ : ∃ turn, turn = nextT t0 := ⟨_, rfl⟩
        have htl : turn < 4294967296 := by rw [htn]; unfold nextT; omega
        have hti : ((t0 : Int) + 1).tmod 4294967296 = (turn : Int) := by rw [Int.tmod_eq_emod_of_nonneg (by omega), htn]; unfold nextT; omega
        have htw : IntKind.i64.wrap ((t0 : Int) + 1) = (t0 : Int) + 1 := IntWalk.i64_in _ ⟨by omega, by omega⟩
        have c3 := (wal_c H3.out.2.2.1).2.2.2.1
        have HOK := Lib.hid (refR_ok HZ.out.symm)
        have HR := Lib.hid (show comR N at_ rc d t0 false l' = ((commitR d at_ t0 turn l').1, (commitR d at_ t0 turn l').2.1, (commitR d at_ t0 turn l').2.2, decide ((commitR d at_ t0 turn l').2.1 ≠ 0)) by
          unfold comR
          rw [if_neg (by rw [← HZ.out]; simp), if_neg HN.out, if_neg (by simp), ← htn])
        clear hn0 htn
        go_wp2_with fail
        obtain ⟨i0, hi, hz0, hz1, hz2⟩ := info_parts infoStep
        have HI := Lib.hid (⟨hi, hz0, hz1, hz2⟩ : _ ∧ _ ∧ _ ∧ _)
        have HC : Hid (Cm w0 w pb N B d wb at_ rc t0 p' l' w3.drew) := Lib.hid ⟨H3.out.2.2.1, H3.out.1.calm (Fr.refl _ _).drew, H3.out.2.2.2.1.keep (Keep.of_fr (Fr.refl _ _).drew), H3.out.2.2.2.2.drew⟩
        have HT3 : Hid (∀ w5, Cm w0 w pb N B d wb at_ rc t0 p' l' w5 → cr.Tab w5) := Lib.hid fun w5 h => HTW.out.fr h.fr
        have HLO : Hid (∀ w5, Cm w0 w pb N B d wb at_ rc t0 p' l' w5 → Calls Tryz.prog 36 #[.pointer (some ⟨wb, 0, none⟩), .int .i64 (turn : Int), .slice p' n cap'] w5 fun e w' => ∃ v, e = .returned v ∧ LogV w' v wb pb at_ rc turn n l' ∧ Fr (fun _ => False) w5 w') := Lib.hid fun w5 h => by
          rw [HLEN.out]
          exact log_any w5 (HT3.out w5 h) wb pb at_ rc t0 turn false h.wal htl (by omega) p' cap' l' h.bks (by have := HOK.out.1; omega) (fun x hx => by have := HOK.out.2 x hx; omega) (fun x hx => by rw [bks_len h.bks x hx]; omega)
        have HBR : Hid (∀ w5, Cm w0 w pb N B d wb at_ rc t0 p' l' w5 → Calls Tryz.prog 37 #[.agg #[.pointer (some ⟨pb, 0, none⟩), .int .i64 (at_ : Int), .int .i64 (rc : Int)], .int .i64 (turn : Int), .slice p' n cap'] w5 fun e w' => ∃ g v1 v2 p2, e = .returned (.slice (some ⟨g, 0, none⟩) 2 2) ∧ w'.heap[g]? = some (.cells #[v1, v2] 88 (0, 0)) ∧
            StepW w' v1 pb at_ rc p' n cap' ∧ StepW w' v2 pb at_ rc p2 1 1 ∧ BksT w' p2 [((at_ : Int), hdrL turn [])] ∧ w5.heap.size ≤ g ∧ Fr (fun _ => False) w5 w') := Lib.hid fun w5 h => bring_any w5 (HT3.out w5 h) pb at_ rc turn htl p' n cap'
        have HBND := Lib.hid (⟨h0, HLEN.out, HOK.out.1, h2, hbig, (fun x hx => by have := HOK.out.2 x hx; omega), h3⟩ : w0.heap.size ≤ wb ∧ n = l'.length ∧ l'.length ≤ rc ∧ rc ≤ 100 ∧ B + 500 ≤ 100000000 ∧ (∀ x ∈ l', 0 ≤ x.1 ∧ x.1 < N) ∧ at_ + rc < N)
        clear hi hz0 hz1 hz2 c3 c4 H3 hti htw hn1 hn h2 h3 h4 ht htl hbig h0
        go_region_held3 (fun w' => w'.cell? ⟨wb, 0, none⟩ = some (.pointer (some ⟨pb, 0, none⟩)) ∧ w'.cell? ⟨wb, 1, none⟩ = some (.int .i64 (at_ : Int)) ∧ w'.cell? ⟨wb, 2, none⟩ = some (.int .i64 (rc : Int)))
          (first
            | exact walHeld H7.out.2.1
            | exact HC.out.held)
          (first
            | (go_at_call 36; (refine (HLO.out _ HC.out).mono ?_); rintro e w5 ⟨_, rfl, ⟨g, v1, v2, p1, c1, p2, gt, gw, rfl, q1, q2, q3, q4, q5, q6, q7⟩, hF5⟩; have HL := Lib.hid (show LogF w5 g v1 v2 p1 c1 p2 gt gw wb pb at_ rc turn n l' from ⟨q1, q2, q3, q4, q5, q6, q7⟩); replace HC := Lib.hid (HC.out.calm hF5); (try replace HB := Lib.hid (HB.out.calm hF5)); clear q1 q2 q3 q4 q5 q6 q7 hF5)
            | (go_at_call 37; (refine (HBR.out _ HC.out).mono ?_); rintro e w5 ⟨gb, v4, v5, p5, rfl, q1, q2, q3, q4, _, hF5⟩; have HB := Lib.hid (show BrF w5 gb v4 v5 p' n cap' p5 pb at_ rc turn from ⟨q1, q2, q3, q4⟩); replace HC := Lib.hid (HC.out.calm hF5); (try replace HL := Lib.hid (HL.out.calm hF5)); clear q1 q2 q3 q4 hF5)
            | (go_at_call 35; (refine HRUN.out.mono ?_); rintro e w7 ⟨rfl, hD7, hw7, hK7⟩; have H7 := Lib.hid (⟨hD7, hw7, hK7⟩ : _ ∧ _ ∧ _); clear hD7 hw7 hK7)
            | (refine step_append_grows rfl (.tmp 37) (.tmp 44) 76 rfl 88 i0 .nilFunc 1 8 Tryz.underlying76 HI.out.1 HI.out.2.1 HI.out.2.2.1 HI.out.2.2.2 rfl (by omega) (some ⟨g, 0, none⟩) 3 3 [v1, v2, .func (.func 55) #[] #[.pointer (some ⟨gt, 0, none⟩), .pointer (some ⟨gw, 0, none⟩)]] rfl (fun e => by cases e) rfl (fun b hb => by cases hb; exact row_cells _ HL.out.1) ⟨gb, 0, none⟩ 2 2 [v4, v5] rfl rfl (row_cells _ HB.out.1) (by intro u hu; simp at hu; rcases hu with rfl | rfl; exact stepW_one HB.out.2.1; exact stepW_one HB.out.2.2.1) (by omega) (by unfold maxLen; omega) (by omega) ?_; intro v' w9 hown hgrow; have hF9 := fr_none hgrow; obtain ⟨g9, cap9, rfl, hrun⟩ := five_run (HC.out.calm hF9) (HL.out.calm hF9) (HB.out.calm hF9) HBND.out.1 HBND.out.2.1 HBND.out.2.2.1 HBND.out.2.2.2.1 HBND.out.2.2.2.2.1 HBND.out.2.2.2.2.2.1 HBND.out.2.2.2.2.2.2 hown; have HRUN := Lib.hid hrun; replace HC := Lib.hid (HC.out.calm hF9); clear hown hgrow hF9 hrun))
        all_goals
          obtain ⟨z, hz⟩ : ∃ z, z = (commitR d at_ t0 turn l').2.1 := ⟨_, rfl⟩
          rw [← hz] at HR ⊢
          have HZ2 := Lib.hid hz
          have hty : Ty w7 74 wb := ⟨_, H7.out.2.1⟩
          have c4 := (wal_c H7.out.2.1).2.2.2.2
          have f4 : w7.frozen? ⟨wb, 4, none⟩ = false := freeAt H7.out.2.1 4
          have hFs : ∀ u, Fr (· = wb) w7 (w7.setCell ⟨wb, 4, none⟩ u) := fun u => (Fr.refl (· = wb) w7).setCell (p := ⟨wb, 4, none⟩) (Or.inl rfl) u
          have HFS := Lib.hid hFs
          have HTY := Lib.hid hty
          clear hz hFs hty
          by_cases hz0 : z = 0
          · have hzb : (z != 0) = false := by simp [hz0]
            have HZ0 := Lib.hid hz0
            clear hz0
            go_wp2_with fail
            go_ret
            refine ⟨l', HP.out.1, HP.out.2, ?_⟩
            rw [HR.out]
            refine ⟨rfl, isD_wal H7.out.1 HTY.out HBND.out.1 (HFS.out _), ?_, H7.out.2.2.trans (keep2_wal HTY.out (HFS.out _))⟩
            have hq := heap_setCell_same w7 wb 4 _ _ (.bool false) H7.out.2.1
            rw [show decide (z ≠ 0) = false by simp [HZ0.out]]
            exact hq
          · have hzb : (z != 0) = true := by simpa using hz0
            have HZ0 := Lib.hid hz0
            clear hz0
            go_wp2_with fail
            go_ret
            refine ⟨l', HP.out.1, HP.out.2, ?_⟩
            rw [HR.out]
            refine ⟨rfl, isD_wal H7.out.1 HTY.out HBND.out.1 (HFS.out _), ?_, H7.out.2.2.trans (keep2_wal HTY.out (HFS.out _))⟩
            have hq := heap_setCell_same w7 wb 4 _ _ (.bool true) H7.out.2.1
            rw [show decide (z ≠ 0) = true by simp [HZ0.out]]
            exact hq
  · have hzb : (z != 0) = true := by simpa using hz
    have HR := Lib.hid (show comR N at_ rc d t0 sp l' = (d, z, t0, sp) by
      unfold comR
      rw [← HZ.out, if_pos hz])
    go_wp2_with fail
    go_ret
    exact ⟨l', HP.out.1, HP.out.2, by rw [HR.out]; exact ⟨rfl, isD_big H3.out.1 (by omega) hbig, H3.out.2.2.1, keep_two (Keep.of_fr H3.out.2.2.2.2)⟩⟩
end Go.Proofs.YtflapnbpaodhaaaGreatDoor.hd
