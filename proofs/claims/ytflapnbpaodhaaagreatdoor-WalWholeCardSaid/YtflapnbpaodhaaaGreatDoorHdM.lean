/-
  logged, of any header.
-/
import Derived.Test.YtflapnbpaodhaaaGreatDoorHdL
namespace Go.Proofs.YtflapnbpaodhaaaGreatDoor.hd
set_option maxRecDepth 100000
open Go.RowKit Go.Maps ds
set_option maxRecDepth 100000

set_option maxHeartbeats 4000000 in
theorem logged_any (w0 w : World) (pb N B : Nat) (d : DS) (hD : IsD w0 pb N B d w) (hdk : d.dk = false) (at_ rc : Nat) (h1 : 1 ≤ rc) (h2 : rc ≤ 100) (h3 : at_ + rc < N) (h4 : N ≤ 4096) (h : List UInt8) (hl : h.length = 256) :
    Calls Tryz.prog 61 #[roomV pb at_ rc, secV h] w fun e w' => Fr (fun _ => False) w w' ∧
      ((∃ p cap, e = .returned (.tuple #[.slice p (numAt h 8 2) cap, .int .i64 0]) ∧ rightH N at_ rc h ∧ BksT w' p (logL d at_ h (numAt h 8 2))) ∨
        (e = .returned (.tuple #[.slice none 0 0, .int .i64 40]) ∧ ¬ rightH N at_ rc h)) := by
  obtain ⟨i0, hi, hz0, hz1, hz2⟩ := info_parts infoBlk
  have HI := Lib.hid (⟨hi, hz0, hz1, hz2⟩ : _ ∧ _ ∧ _ ∧ _)
  have HLg := Lib.hid (Lg.mk2 (at_ := at_) (rc := rc) hD h)
  have HD0 := Lib.hid hD
  have HDK := Lib.hid hdk
  have HL := Lib.hid hl
  have HCN : Hid (∀ w2, Calls Tryz.prog 73 #[.agg (cellsOf h).toArray] w2 fun e w' => e = .returned (.int .i64 ((numAt h 8 2 : Nat) : Int)) ∧ Fr (fun _ => False) w2 w') := Lib.hid fun w2 => count_ok w2 hl
  obtain ⟨n, hn⟩ : ∃ n, n = numAt h 8 2 := ⟨_, rfl⟩
  have HN := Lib.hid hn
  rw [← hn] at HCN ⊢
  have hu := Tryz.underlying100
  have hin : (Tryz.prog.info? 100).map (·.size) = some (cellsOf h).length := by rw [cellsOf_length, hl]; exact infoArr
  have HU := Lib.hid (⟨hu, hin⟩ : _ ∧ _)
  clear hi hz0 hz1 hz2 hD hdk hl hn hu hin
  unfold roomV
  go_enter Tryz.func61, Tryz.ntmps61
  go_wp2_with ((with_reducible refine wpList_boxArr ?_ (.tmp 1) ?_ h ?_ ?_); (exact rfl); (exact rfl); (exact rfl))
  generalize ((w.alloc (.cells #[.pointer (some ⟨pb, 0, none⟩), .int .i64 (at_ : Int), .int .i64 (rc : Int)] 72)).alloc (.cells (secC h) 100)) = wa at HLg ⊢
  obtain ⟨hu, hin⟩ := HU.out
  by_cases hc : n ≤ rc
  · have hc' : ¬ (rc : Int) < n := by omega
    go_region_held3 (fun w' => w'.cell? ⟨w.heap.size, 0, none⟩ = some (.pointer (some ⟨pb, 0, none⟩)) ∧ w'.cell? ⟨w.heap.size, 1, none⟩ = some (.int .i64 (at_ : Int)) ∧ w'.cell? ⟨w.heap.size, 2, none⟩ = some (.int .i64 (rc : Int)) ∧ w'.rangeAt (w.heap.size + 1) 0 (cellsOf h))
      (first
        | exact (HLg.out.calm (Fr.refl _ _).drew).held
        | exact H3.out.held)
      (first
        | (go_at_call 73; (refine (HCN.out _).mono ?_); rintro e w3 ⟨rfl, hF3⟩; have H3 := Lib.hid ((HLg.out.calm (Fr.refl _ _).drew).calm hF3); clear hF3))
    all_goals
      clear hu hin
      go_wp2_with ((with_reducible refine wpList_loadArr ?_ (.tmp 3) ?_ (w.heap.size + 1) h HL.out ?_ H3.out.hdr ?_); (exact rfl); (exact rfl); (exact rfl))
    refine (HCN.out _).mono ?_
    rintro e w4 ⟨rfl, hF4⟩
    have H4 := Lib.hid (H3.out.calm hF4)
    clear hF4 HLg H3
    go_wp2_with fail
    go_loopw [6, 18] (fun v6 v wr => ∃ k : Nat, k ≤ n ∧ v = .int .i64 k ∧ (∃ p cap, v6 = .slice p k cap) ∧ Hid (LgR d at_ h wr (w.heap.size + 2) v6 k ∧ Lg w0 w pb N B d at_ rc h wr ∧ ∀ i, i < k → okAt N at_ rc h i)) (fun _ v _ => n - (intOf v).toNat)
    case atStart => exact ⟨0, Nat.zero_le _, rfl, ⟨none, 0, rfl⟩, Lib.hid ⟨⟨[], BRow.nil _ _, rfl⟩, H4.out, fun i hi => by omega⟩⟩
    case round =>
      obtain ⟨k, hk, rfl, ⟨p, cap, rfl⟩, HR⟩ := hrel
      by_cases hlt : k < n
      · have HHO := Lib.hid (fun w2 => homeOf_ok w2 HL.out k (by omega))
        obtain ⟨hm, hhm⟩ : ∃ hm, hm = homeN h k := ⟨_, rfl⟩
        have HHM := Lib.hid hhm
        rw [show numAt h (10 + k * 2) 2 = hm from hhm.symm] at HHO
        clear hhm
        go_wp2_with ((with_reducible refine wpList_loadArr ?_ (.tmp 3) ?_ (w.heap.size + 1) h HL.out ?_ HR.out.2.1.hdr ?_); (exact rfl); (exact rfl); (exact rfl))
        refine (HHO.out _).mono ?_
        rintro e w5 ⟨rfl, hF5⟩
        have H5 := Lib.hid (HR.out.2.1.calm hF5)
        have HR5 := Lib.hid (HR.out.1.calm hF5)
        have HIH := Lib.hid (isHome_any w5 pb at_ rc N (by omega) (by omega) H5.out.dsk.cell0.2.1 H5.out.dsk.cell0.1 H5.out.dsk.cell0.2.2 (hm : Int))
        unfold roomV at HIH
        obtain ⟨b0, b1, b2, _⟩ := H5.out.held
        clear hF5
        by_cases hh : at_ + 1 + rc ≤ hm ∧ hm < N
        · rw [show (decide (((at_ + 1 + rc : Nat) : Int) ≤ (hm : Int)) && decide ((hm : Int) < N)) = true by simp; omega] at HIH
          have HROK := Lib.hid HR.out.2.2
          have hk0 : (0 : Int) ≤ k := by omega
          have hkb : (k : Int) < 1000 := by omega
          have HW1 : IntKind.i64.wrap ((at_ : Int) + 1 + k) = (at_ : Int) + 1 + k := IntWalk.i64_in _ ⟨by omega, by omega⟩
          have HDA : Hid (∀ w2, Calls Tryz.prog 65 #[.agg #[.pointer (some ⟨pb, 0, none⟩), .int .i64 (at_ : Int), .int .i64 (rc : Int)]] w2 fun e w' => e = .returned (.int .i64 ((at_ : Int) + 1)) ∧ Fr (fun _ => False) w2 w') := Lib.hid fun w2 => data_any w2 pb at_ rc (by omega)
          have HRD : Hid (∀ w2, Lg w0 w pb N B d at_ rc h w2 → Calls Tryz.prog 10 #[.pointer (some ⟨pb, 0, none⟩), .int .i64 ((at_ : Int) + 1 + k)] w2 fun e w' => NewSec w2 (d.img ((at_ + 1 + k : Nat) : Int)) e w') := Lib.hid fun w2 hg => hg.dsk.read HDK.out _ (by omega) (by omega)
          have hpv : (¬ (0 : Int) < k ∧ Hid (okAt N at_ rc h k)) ∨ (∃ (j : Nat) (hp : Nat) (g : Nat), (0 : Int) < k ∧ p = some ⟨g, 0, none⟩ ∧ IntKind.i64.wrap ((k : Int) - 1) = j ∧ (j : Int) < k ∧ w5.cell? ⟨g, j * 2, none⟩ = some (.int .i64 (hp : Int)) ∧ g < w5.heap.size ∧ ¬ (hm : Int) ≤ hp ∧ Hid (okAt N at_ rc h k)) ∨
              (∃ (j : Nat) (hp : Nat) (g : Nat), (0 : Int) < k ∧ p = some ⟨g, 0, none⟩ ∧ IntKind.i64.wrap ((k : Int) - 1) = j ∧ (j : Int) < k ∧ w5.cell? ⟨g, j * 2, none⟩ = some (.int .i64 (hp : Int)) ∧ g < w5.heap.size ∧ (hm : Int) ≤ hp ∧ Hid (¬ okAt N at_ rc h k)) := by
            have hmm := HHM.out
            cases k with
            | zero => exact Or.inl ⟨by omega, ⟨by rw [← hmm]; exact hh.1, by rw [← hmm]; exact hh.2, fun h0 => by omega⟩⟩
            | succ j =>
              obtain ⟨_, g, hp, hgl, hpc⟩ := HR5.out.prev
              have hwj : IntKind.i64.wrap (((j + 1 : Nat) : Int) - 1) = j := by rw [IntWalk.i64_in _ ⟨by omega, by omega⟩]; omega
              by_cases hq : homeN h j < hm
              · exact Or.inr (Or.inl ⟨j, homeN h j, g, by omega, hp, hwj, by omega, hpc, hgl, by omega, ⟨by rw [← hmm]; exact hh.1, by rw [← hmm]; exact hh.2, fun _ => by rw [← hmm]; exact hq⟩⟩)
              · exact Or.inr (Or.inr ⟨j, homeN h j, g, by omega, hp, hwj, by omega, hpc, hgl, by omega, fun ho => hq (by rw [hmm]; exact ho.2.2 (by omega))⟩)
          rcases hpv with ⟨hk1, HOK⟩ | ⟨j, hp, g, hk1, rfl, hwj, hjk, hpc, hgl, hq, HOK⟩ | ⟨j, hp, g, hk1, rfl, hwj, hjk, hpc, hgl, hq, HNO⟩
          rotate_left 2
          · have hj0 : (0 : Int) ≤ j := by omega
            go_wp2_with (go_at_call 53; refine HIH.out.mono ?_; rintro e w6 ⟨rfl, hF6⟩; have H6 := Lib.hid (H5.out.calm hF6); have hpc6 := (World.cell?_of_block (w := w5) (w' := w6) (a := ⟨g, j * 2, none⟩) (hF6.block g hgl id)).trans hpc; clear hF6)
            go_ret2
            exact ⟨H6.out.fr, Or.inr ⟨rfl, fun hr => HNO.out (hr.2 k (by rw [← HN.out]; omega))⟩⟩
          · go_wp2_with (go_at_call 53; refine HIH.out.mono ?_; rintro e w6 ⟨rfl, hF6⟩; have H6 := Lib.hid (H5.out.calm hF6); have HR6 := Lib.hid (HR5.out.calm hF6); clear hF6)
            obtain ⟨L, hL, hLk, hLm⟩ := HR6.out.row
            have HL6 := Lib.hid (⟨hL, hLk, hLm⟩ : _ ∧ _ ∧ _)
            clear hL hLk hLm HR6 HR5 HR H5
            go_region_held3 (fun w' => w'.cell? ⟨w.heap.size, 0, none⟩ = some (.pointer (some ⟨pb, 0, none⟩)) ∧ w'.cell? ⟨w.heap.size, 1, none⟩ = some (.int .i64 (at_ : Int)) ∧ w'.cell? ⟨w.heap.size, 2, none⟩ = some (.int .i64 (rc : Int)))
              (first
                | exact (H6.out.calm (Fr.refl _ _).drew).box.c
                | exact H7.out.1.box.c
                | exact H8.out.1.box.c)
              (first
                | (go_at_call 65; (refine (HDA.out _).mono ?_); rintro e w7 ⟨rfl, hF7⟩; have H7 := Lib.hid (⟨(H6.out.calm (Fr.refl _ _).drew).calm hF7, (HL6.out.1.calm (Fr.refl _ _).drew).calm hF7⟩ : _ ∧ _); clear hF7)
                | (go_at_call 10; (refine (HRD.out _ H7.out.1).mono ?_); rintro e w8 ⟨gd, rfl, hgd, hbd, hF8⟩; have H8 := Lib.hid (⟨H7.out.1.calm hF8, H7.out.2.calm hF8, hbd⟩ : _ ∧ _ ∧ _); clear hgd hbd hF8))
            all_goals
              have HO : Hid (w8.ownsRow (w.heap.size + 2) 38 2 (.slice p k cap) k (bcs L)) := Lib.hid (by have ho := H8.out.2.1.own; rw [HL6.out.2.1] at ho; exact ho)
              go_wp2_with (at_builtin; refine wpList_append_own _ rfl (.tmp 55) (.tmp 59) 30 rfl (w.heap.size + 2) 38 i0 (.agg #[.int .i64 0, .slice none 0 0]) 2 32 Tryz.underlying30 HI.out.1 HI.out.2.1 HI.out.2.2.1 HI.out.2.2.2 rfl (by omega) _ k (bcs L) rfl (HO.out.alloc _) ⟨w8.heap.size, 0, none⟩ 1 1 [.int .i64 (hm : Int), .slice (some ⟨gd, 0, none⟩) 256 256] rfl ?c1 (pair_cells _ _ _) ?c3 ?c4 ?c5 ?c6 ?c7)
              case c1 => rfl
              case c3 => intro u hu; simp at hu; rcases hu with rfl | rfl <;> rfl
              case c4 => unfold maxLen; omega
              case c5 => omega
              case c6 => have := H8.out.1.lt; simp; omega
              case c7 =>
                intro v' w9 hown hgrow _
                obtain ⟨g9, cap9, rfl⟩ := row_some hown
                have H9 : Hid (LgR d at_ h w9 (w.heap.size + 2) (.slice (some ⟨g9, 0, none⟩) (k + 1) cap9) (k + 1) ∧ Lg w0 w pb N B d at_ rc h w9 ∧ ∀ i, i < k + 1 → okAt N at_ rc h i) := Lib.hid (by
                  have hFa : Fr (fun _ => False) w8 (w8.alloc (.cells #[.int .i64 (hm : Int), .slice (some ⟨gd, 0, none⟩) 256 256] 38)) := (Fr.refl _ w8).alloc _
                  have hB := H8.out.2.1.calm hFa
                  have hlen := HL6.out.2.1
                  have hd : DatT (w8.alloc (.cells #[.int .i64 (hm : Int), .slice (some ⟨gd, 0, none⟩) 256 256] 38)) (.slice (some ⟨gd, 0, none⟩) 256 256) (d.img ((at_ + 1 + k : Nat) : Int)) :=
                    DatT.keep ⟨gd, 0, 256, 68, rfl, H8.out.1.dsk.len (by omega) (by omega), ⟨_, H8.out.2.2⟩, by decide, by decide, reads_arr H8.out.2.2⟩ (Keep.of_fr hFa)
                  refine ⟨⟨L ++ [((hm : Int), .slice (some ⟨gd, 0, none⟩) 256 256, d.img ((at_ + 1 + k : Nat) : Int))], hB.snoc hd ?_ hgrow, ?_⟩, (H8.out.1.calm hFa).grown HD0.out hgrow (fun j hj => (hB.row j hj).1), fun i hi => ?_⟩
                  · rw [hlen]; exact hown
                  · rw [List.map_append, HL6.out.2.2, logL_succ]
                    show _ ++ [((hm : Int), _)] = _
                    rw [logAt, HHM.out]
                  · by_cases e : i = k
                    · subst e; exact HOK.out
                    · exact HROK.out i (by omega))
                clear hown hgrow
                go_wp2_with fail
                go_roundw
                case rel => exact ⟨k + 1, by omega, by go_num, ⟨_, _, rfl⟩, H9⟩
                case measure => simp [intOf]; omega
          · have hj0 : (0 : Int) ≤ j := by omega
            go_wp2_with (go_at_call 53; refine HIH.out.mono ?_; rintro e w6 ⟨rfl, hF6⟩; have H6 := Lib.hid (H5.out.calm hF6); have HR6 := Lib.hid (HR5.out.calm hF6); have hpc6 := (World.cell?_of_block (w := w5) (w' := w6) (a := ⟨g, j * 2, none⟩) (hF6.block g hgl id)).trans hpc; clear hF6)
            obtain ⟨L, hL, hLk, hLm⟩ := HR6.out.row
            have HL6 := Lib.hid (⟨hL, hLk, hLm⟩ : _ ∧ _ ∧ _)
            clear hL hLk hLm HR6 HR5 HR H5 hpc hpc6 hgl hq hwj hjk hj0
            go_region_held3 (fun w' => w'.cell? ⟨w.heap.size, 0, none⟩ = some (.pointer (some ⟨pb, 0, none⟩)) ∧ w'.cell? ⟨w.heap.size, 1, none⟩ = some (.int .i64 (at_ : Int)) ∧ w'.cell? ⟨w.heap.size, 2, none⟩ = some (.int .i64 (rc : Int)))
              (first
                | exact (H6.out.calm (Fr.refl _ _).drew).box.c
                | exact H7.out.1.box.c
                | exact H8.out.1.box.c)
              (first
                | (go_at_call 65; (refine (HDA.out _).mono ?_); rintro e w7 ⟨rfl, hF7⟩; have H7 := Lib.hid (⟨(H6.out.calm (Fr.refl _ _).drew).calm hF7, (HL6.out.1.calm (Fr.refl _ _).drew).calm hF7⟩ : _ ∧ _); clear hF7)
                | (go_at_call 10; (refine (HRD.out _ H7.out.1).mono ?_); rintro e w8 ⟨gd, rfl, hgd, hbd, hF8⟩; have H8 := Lib.hid (⟨H7.out.1.calm hF8, H7.out.2.calm hF8, hbd⟩ : _ ∧ _ ∧ _); clear hgd hbd hF8))
            all_goals
              have HO : Hid (w8.ownsRow (w.heap.size + 2) 38 2 (.slice (some ⟨g, 0, none⟩) k cap) k (bcs L)) := Lib.hid (by have ho := H8.out.2.1.own; rw [HL6.out.2.1] at ho; exact ho)
              go_wp2_with (at_builtin; refine wpList_append_own _ rfl (.tmp 55) (.tmp 59) 30 rfl (w.heap.size + 2) 38 i0 (.agg #[.int .i64 0, .slice none 0 0]) 2 32 Tryz.underlying30 HI.out.1 HI.out.2.1 HI.out.2.2.1 HI.out.2.2.2 rfl (by omega) _ k (bcs L) rfl (HO.out.alloc _) ⟨w8.heap.size, 0, none⟩ 1 1 [.int .i64 (hm : Int), .slice (some ⟨gd, 0, none⟩) 256 256] rfl ?c1 (pair_cells _ _ _) ?c3 ?c4 ?c5 ?c6 ?c7)
              case c1 => rfl
              case c3 => intro u hu; simp at hu; rcases hu with rfl | rfl <;> rfl
              case c4 => unfold maxLen; omega
              case c5 => omega
              case c6 => have := H8.out.1.lt; simp; omega
              case c7 =>
                intro v' w9 hown hgrow _
                obtain ⟨g9, cap9, rfl⟩ := row_some hown
                have H9 : Hid (LgR d at_ h w9 (w.heap.size + 2) (.slice (some ⟨g9, 0, none⟩) (k + 1) cap9) (k + 1) ∧ Lg w0 w pb N B d at_ rc h w9 ∧ ∀ i, i < k + 1 → okAt N at_ rc h i) := Lib.hid (by
                  have hFa : Fr (fun _ => False) w8 (w8.alloc (.cells #[.int .i64 (hm : Int), .slice (some ⟨gd, 0, none⟩) 256 256] 38)) := (Fr.refl _ w8).alloc _
                  have hB := H8.out.2.1.calm hFa
                  have hlen := HL6.out.2.1
                  have hd : DatT (w8.alloc (.cells #[.int .i64 (hm : Int), .slice (some ⟨gd, 0, none⟩) 256 256] 38)) (.slice (some ⟨gd, 0, none⟩) 256 256) (d.img ((at_ + 1 + k : Nat) : Int)) :=
                    DatT.keep ⟨gd, 0, 256, 68, rfl, H8.out.1.dsk.len (by omega) (by omega), ⟨_, H8.out.2.2⟩, by decide, by decide, reads_arr H8.out.2.2⟩ (Keep.of_fr hFa)
                  refine ⟨⟨L ++ [((hm : Int), .slice (some ⟨gd, 0, none⟩) 256 256, d.img ((at_ + 1 + k : Nat) : Int))], hB.snoc hd ?_ hgrow, ?_⟩, (H8.out.1.calm hFa).grown HD0.out hgrow (fun j hj => (hB.row j hj).1), fun i hi => ?_⟩
                  · rw [hlen]; exact hown
                  · rw [List.map_append, HL6.out.2.2, logL_succ]
                    show _ ++ [((hm : Int), _)] = _
                    rw [logAt, HHM.out]
                  · by_cases e : i = k
                    · subst e; exact HOK.out
                    · exact HROK.out i (by omega))
                clear hown hgrow
                go_wp2_with fail
                go_roundw
                case rel => exact ⟨k + 1, by omega, by go_num, ⟨_, _, rfl⟩, H9⟩
                case measure => simp [intOf]; omega
        · rw [show (decide (((at_ + 1 + rc : Nat) : Int) ≤ (hm : Int)) && decide ((hm : Int) < N)) = false by simp; omega] at HIH
          go_wp2_with (go_at_call 53; refine HIH.out.mono ?_; rintro e w6 ⟨rfl, hF6⟩; have H6 := Lib.hid (H5.out.calm hF6); clear hF6)
          go_ret2
          exact ⟨H6.out.fr, Or.inr ⟨rfl, fun hr => hh (by have := hr.2 k (by rw [← HN.out]; omega); rw [HHM.out]; exact ⟨this.1, this.2.1⟩)⟩⟩
      · obtain rfl : k = n := by omega
        go_wp2_with fail
        go_ret2
        obtain ⟨p', cap', hs, hb⟩ := HR.out.1.shape
        cases hs
        exact ⟨HR.out.2.1.fr, Or.inl ⟨_, _, rfl, ⟨by rw [← HN.out]; exact hc, fun i hi => HR.out.2.2 i (by rw [HN.out]; exact hi)⟩, hb⟩⟩
  · have hc' : (rc : Int) < n := by omega
    go_region_held3 (fun w' => w'.cell? ⟨w.heap.size, 0, none⟩ = some (.pointer (some ⟨pb, 0, none⟩)) ∧ w'.cell? ⟨w.heap.size, 1, none⟩ = some (.int .i64 (at_ : Int)) ∧ w'.cell? ⟨w.heap.size, 2, none⟩ = some (.int .i64 (rc : Int)) ∧ w'.rangeAt (w.heap.size + 1) 0 (cellsOf h))
      (first
        | exact (HLg.out.calm (Fr.refl _ _).drew).held
        | exact H3.out.held)
      (first
        | (go_at_call 73; (refine (HCN.out _).mono ?_); rintro e w3 ⟨rfl, hF3⟩; have H3 := Lib.hid ((HLg.out.calm (Fr.refl _ _).drew).calm hF3); clear hF3))
    all_goals
      clear hu hin
      go_wp2
      go_ret2
      exact ⟨H3.out.fr, Or.inr ⟨rfl, fun h => hc (by have := h.1; rw [← HN.out] at this; exact this)⟩⟩
end Go.Proofs.YtflapnbpaodhaaaGreatDoor.hd
