/-
  WalAgain: a log that is opened twice is as one opened once, and the second opening writes nothing, whatever the sizes, the homes, the fill and the crash. No condition but what the row lists of the program's table.
-/
import Derived.Test.YtflapnbpaodhaaaGreatDoorRows
import Derived.Test.YtflapnbpaodhaaaGreatDoorWe
import Derived.Test.YtflapnbpaodhaaaGreatDoorCu
import Derived.Test.YtflapnbpaodhaaaGreatDoorCrcW
import Derived.Test.YtflapnbpaodhaaaGreatDoorCards
import Derived.Test.YtflapnbpaodhaaaGreatDoorTie
import Derived.SevenTiedAt
namespace Go.Proofs.YtflapnbpaodhaaaGreatDoor.walAgain
set_option maxRecDepth 100000
open Go.Joins Go.ChangeShapes Go.WideShapes Go.ChangeAt Go.RowKit hd ds cu

theorem rdI_more {w : World} {B B' : Nat} {A : Option Addr} {l : List Int} (h : RdI w B A l) (hB : B ≤ B') : RdI w B' A l := ⟨fun hne => by
  obtain ⟨blk, off, hp, hb, hc⟩ := h.1 hne
  exact ⟨blk, off, hp, by omega, hc⟩, h.2⟩
theorem same_true (w : World) (A1 A2 : Option Addr) (B1 B2 n c1 c2 : Nat) (L : List UInt8) (hr1 : Rd w B1 A1 L) (hr2 : Rd w B2 A2 L) (hn : L.length = n) (hb : n ≤ 140737488351232) :
    Calls Tryz.prog 19 #[.slice A1 n c1, .slice A2 n c2] w fun e w' => e = .returned (.bool true) ∧ Calm w w' := by
  subst hn
  have h := same_any w A1 A2 B1 B2 c1 c2 L L hr1 hr2 hb
  rw [decide_eq_true rfl] at h
  exact h

set_option maxRecDepth 100000 in
set_option maxHeartbeats 8000000 in
theorem walk (s : Int) (A : Option Addr) (cap : Nat) (l : List Int) (x : UInt8) (z : Int) (v1 : Value) (l2 : List Int) (w : World) (hr : RdI w w.heap.size A l) (hb : l.length ≤ 140737488351232) (hp : PickV w w.heap.size v1 l2) (hT : cr.Tab w) :
    Calls Tryz.prog 4 #[.int .i64 s, .slice A l.length cap, .int .u8 (x.toNat : Int), .agg #[.int .i64 z, v1]] w fun e w' => e = .returned (.bool true) ∧ Fr (fun _ => False) w w' := by
  obtain ⟨A2, cap2, rfl, hr2, hl2⟩ := hp
  obtain ⟨n, hn'⟩ : ∃ n, n = l.length := ⟨_, rfl⟩
  obtain ⟨n2, hn2⟩ : ∃ n, n = l2.length := ⟨_, rfl⟩
  have hF0 := (Fr.refl (fun _ => False) w).alloc (.cells #[.int .i64 z, .slice A2 n2 cap2] 41)
  have HA := Lib.hid (⟨rdI_more (hr.still hF0 (Nat.le_refl _)) hF0.size, hb, hn', hT.fr hF0, rdI_more (hr2.still hF0 (Nat.le_refl _)) hF0.size, hl2, hn2⟩ : _ ∧ _ ∧ _ ∧ _ ∧ _ ∧ _ ∧ _)
  have HBX := Lib.hid (show (w.alloc (.cells #[.int .i64 z, .slice A2 n2 cap2] 41)).heap[w.heap.size]? = some (.cells #[.int .i64 z, .slice A2 n2 cap2] 41 (0, 0)) from heap_alloc_new _ _)
  have HF0 := Lib.hid hF0
  rw [← hn', ← hn2]
  clear hr hb hn' hT hr2 hl2 hn2 hF0
  go_enter Tryz.func4, Tryz.ntmps4
  go_wp2_with fail
  generalize w.alloc (.cells #[.int .i64 z, .slice A2 n2 cap2] 41) = w0 at HA HBX HF0 ⊢
  generalize w.heap.size = gC at HBX ⊢
  refine (walWorks w0 HA.out.2.2.2.1).mono ?_
  rintro e w1 ⟨rfl, hF1⟩
  have H1 := Lib.hid hF1
  have HB1 := Lib.hid (fr_blk hF1 HBX.out)
  clear hF1 HBX
  go_wp2_with fail
  refine (among_nat _ _ 20 (by omega) (by omega)).mono ?_
  rintro e w' ⟨m, hm, rfl, rfl⟩
  go_wp2_with fail
  obtain ⟨N, hN⟩ : ∃ N : Nat, N = 9 + m := ⟨_, rfl⟩
  rw [show (9 : Int) + (m : Int) = (N : Int) by omega]
  have hN9 : 9 ≤ N := by omega
  have hN28 : N ≤ 28 := by omega
  clear hN hm
  refine (begun_sure w1 (HA.out.2.2.2.1.fr H1.out) N hN9 (by omega)).mono ?_
  rintro e w2 ⟨pb, wb, d, rfl, hB, hsu, hh⟩
  have H2 := Lib.hid (⟨hB, hsu, hh⟩ : BegP w1 pb wb N 1000 w2 d ∧ Sure d ∧ d.img at2 = hdrL 0 [])
  have HR1 := Lib.hid (rdI_more (HA.out.1.still H1.out (Nat.le_refl _)) H1.out.size)
  have HP1 := Lib.hid (rdI_more (HA.out.2.2.2.2.1.still H1.out (Nat.le_refl _)) H1.out.size)
  have HT1 := Lib.hid (HA.out.2.2.2.1.fr H1.out)
  have HBX : Hid (∀ wr B dd, IsD w1 pb N B dd wr → wr.cell? ⟨gC, 0, none⟩ = some (.int .i64 z) ∧ wr.cell? ⟨gC, 1, none⟩ = some (.slice A2 n2 cap2)) := Lib.hid fun wr B dd h => by
    have hg := fr_blk h.fr HB1.out
    exact ⟨by rw [cellAt hg]; rfl, by rw [cellAt hg]; rfl⟩
  have hb0 := (HBX.out _ _ _ H2.out.1.dsk).1
  clear hB hsu hh
  go_wp2_with fail
  refine (among_nat _ _ 24 (by omega) (by omega)).mono ?_
  rintro e w' ⟨m, hm, rfl, rfl⟩
  have HLM := Lib.hid (H2.out.1.dsk.limit m (by omega))
  clear hm hb0
  go_wp2_with fail
  refine HLM.out.mono ?_
  rintro e w2b ⟨rfl, hDb, hKb⟩
  have H3 := Lib.hid (⟨hDb, keep_walO hKb H2.out.1.wal⟩ : IsD w1 pb N 1000 (d.limit m) w2b ∧ w2b.heap[wb]? = some (walO pb 2 5 0 false))
  have HAT := Lib.hid (ats_any w2b A cap l N (rdI_more (HR1.out.still hDb.fr (Nat.le_refl _)) hDb.fr.size) HA.out.2.1 hN9 (by omega))
  rw [← HA.out.2.2.1] at HAT
  obtain ⟨d1, hd1⟩ : ∃ d1, d1 = d.limit m := ⟨_, rfl⟩
  have HS1 := Lib.hid (show Sure d1 ∧ d1.img at2 = hdrL 0 [] by rw [hd1]; exact ⟨sure_limit H2.out.2.1, H2.out.2.2⟩)
  rw [← hd1] at H3
  have HWL := Lib.hid H2.out.1.lt
  have HN2 := Lib.hid (⟨HA.out.2.2.2.2.2.1, HA.out.2.2.2.2.2.2⟩ : l2.length ≤ 140737488351232 ∧ n2 = l2.length)
  clear hDb hKb HLM hd1 HA H2
  go_wp2_with fail
  refine HAT.out.mono ?_
  rintro e w3 ⟨p, K, c, rfl, hK, xs, hX, hO, hF3⟩
  have hO' := hO
  rw [← hX.1] at hO'
  have HBL := Lib.hid (blocks_any w3 x p c xs (hO'.rd (hX.in64 (by omega))) (by have := hX.1; omega))
  rw [hX.1] at HBL
  have HX := Lib.hid (⟨hX, hF3⟩ : _ ∧ _)
  clear hO' hO hX hF3 HAT
  go_wp2_with fail
  refine HBL.out.mono ?_
  rintro e w4 ⟨p4, c4, rfl, hS4, hF4⟩
  have hF24 := HX.out.2.trans hF4 (fun _ _ e => e)
  have H4 := Lib.hid (⟨H3.out.1.calm hF24, fr_blk hF24 H3.out.2, hS4⟩ : IsD w1 pb N 1000 d1 w4 ∧ w4.heap[wb]? = some (walO pb 2 5 0 false) ∧ SlT w4 p4 c4 (blF x xs))
  clear hS4 hF4 hF24 HBL H3
  have HCM := Lib.hid (commit_any w1 w4 pb N 1000 wb 2 5 0 d1 false H4.out.1 (HT1.out.fr H4.out.1.fr) H4.out.2.1 HWL.out (by omega) (by omega) (by omega) (by omega) p4 c4 (blF x xs) H4.out.2.2 (by rw [blF_length, HX.out.1.1]; omega) (by omega))
  rw [blF_length, HX.out.1.1] at HCM
  go_wp2_with fail
  refine HCM.out.mono ?_
  rintro e w6 ⟨l', hp, hs, he, hD6, _, hK6⟩
  obtain ⟨C, E, hR, hC, _, _⟩ := com_rec HS1.out.1 HS1.out.2 hN9 (by omega) HX.out.1 hK hp hs
  obtain ⟨zc, hzc⟩ : ∃ zc, zc = (comR N 2 5 d1 0 false l').2.1 := ⟨_, rfl⟩
  rw [← hzc] at he
  subst he
  obtain ⟨d6, hd6⟩ : ∃ d6, d6 = (comR N 2 5 d1 0 false l').1 := ⟨_, rfl⟩
  rw [← hd6] at hD6 hC
  have H6 := Lib.hid (⟨hD6, hR, hC⟩ : IsD w1 pb N (1000 + 500) d6 w6 ∧ Rec N C E ∧ ∀ f, hd.Can N d6 f → C f)
  have hb1 := (HBX.out _ _ _ hD6).2
  have HCR := Lib.hid (hD6.crash A2 cap2 l2 (picks_in HP1.out HN2.out.1 hD6))
  rw [← HN2.out.2] at HCR
  clear hD6 hK6 hC hR hp hs hd6 hzc HCM H4
  go_wp2_with fail
  refine HCR.out.mono ?_
  rintro e w7 ⟨rfl, f, hf, hD7, _⟩
  obtain ⟨d7, hd7⟩ : ∃ d7, d7 = DS.behind f d6.ops := ⟨_, rfl⟩
  rw [← hd7] at hD7
  have H7 := Lib.hid (⟨hD7, by rw [hd7]; exact behind_live _ _, by rw [hd7]; exact behind_sure _ _, by rw [hd7]; exact H6.out.2.2 f (can_of (by omega) hf)⟩ : IsD w1 pb N (1000 + 500) d7 w7 ∧ Live d7 ∧ Sure d7 ∧ C d7.img)
  have hz7 := H6.out.2.1.live d7 H7.out.2.1 H7.out.2.2.1 H7.out.2.2.2
  have HOP := Lib.hid (open_any w1 w7 pb N (1000 + 500) d7 H7.out.1 (HT1.out.fr H7.out.1.fr) 2 5 (by omega) (by omega) (by omega) (by omega) (by omega))
  have HG := Lib.hid (show Sure (openR N 2 5 d7).1 ∧ E (openR N 2 5 d7).1.img ∧ (openR N 2 5 d7).1.dk = false ∧ tnOf (openR N 2 5 d7).1 2 = tnOf d7 2 by
    rcases H6.out.2.1.goes d7 H7.out.2.2.1 H7.out.2.1.2 H7.out.2.2.2 with ⟨_, a, b, c, e⟩ | ⟨a, _⟩
    · exact ⟨a, b, c, e⟩
    · rw [hz7] at a; cases a)
  have HZ7 := Lib.hid hz7
  clear hd7 hD7 hf hz7 hb1 HCR
  go_wp2_with fail
  refine HOP.out.mono ?_
  rintro e w8 ⟨_, hD8, hc8⟩
  obtain ⟨wx, rfl, hw8⟩ : ∃ wx, e = .returned (.tuple #[.pointer (some ⟨wx, 0, none⟩), .int .i64 0]) ∧ w8.heap[wx]? = some (walO pb 2 5 (tnOf d7 2) false) := by
    rcases hc8 with ⟨wx, rfl, _, _, h⟩ | ⟨_, h⟩
    · exact ⟨wx, rfl, h⟩
    · exact absurd HZ7.out h
  obtain ⟨t, ht⟩ : ∃ t, t = tnOf d7 2 := ⟨_, rfl⟩
  obtain ⟨d8, hd8⟩ : ∃ d8, d8 = (openR N 2 5 d7).1 := ⟨_, rfl⟩
  obtain ⟨_, tt, htt, hhh⟩ := H6.out.2.1.last _ HG.out.2.1
  rw [← hd8] at hD8 HG hhh
  rw [← ht] at hw8 HG
  obtain ⟨ho8, ht8, _, _⟩ := openR_void (N := N) (rc := 5) HG.out.2.2.1 htt hhh
  have H8 := Lib.hid (⟨hD8, hw8, HG.out.2.2.1, htt, hhh, ho8, HG.out.2.2.2⟩ : IsD w1 pb N (1000 + 500 + 210) d8 w8 ∧ w8.heap[wx]? = some (walO pb 2 5 t false) ∧ d8.dk = false ∧ tt < 4294967296 ∧ d8.img at2 = hdrL tt [] ∧ openR N 2 5 d8 = (d8, 0) ∧ tnOf d8 2 = t)
  have HO := Lib.hid H8.out.1.opsOf
  clear hd8 ht hc8 hD8 hw8 htt hhh ho8 ht8 HOP HG HZ7 H7 H6
  go_wp2_with fail
  refine HO.out.mono ?_
  rintro e w' ⟨rfl, rfl⟩
  have HIM := Lib.hid (imageX H8.out.1)
  clear HO
  go_wp2_with fail
  refine HIM.out.mono ?_
  rintro e w9 ⟨g0, rfl, _, hty0, hR0, hF9⟩
  have H9 := Lib.hid (⟨H8.out.1.calm hF9, fr_blk hF9 H8.out.2.1, hty0, hR0⟩ : IsD w1 pb N (1000 + 500 + 210) d8 w9 ∧ w9.heap[wx]? = some (walO pb 2 5 t false) ∧ _ ∧ _)
  have HOP := Lib.hid (open_any w1 w9 pb N (1000 + 500 + 210) d8 H9.out.1 (HT1.out.fr H9.out.1.fr) 2 5 (by omega) (by omega) (by omega) (by omega) (by omega))
  rw [H8.out.2.2.2.2.2.1] at HOP
  clear hty0 hR0 hF9 HIM
  go_wp2_with fail
  refine HOP.out.mono ?_
  rintro e w10 ⟨hK10, hD10, hc10⟩
  obtain ⟨wy, rfl, hw10⟩ : ∃ wy, e = .returned (.tuple #[.pointer (some ⟨wy, 0, none⟩), .int .i64 0]) ∧ w10.heap[wy]? = some (walO pb 2 5 t false) := by
    rcases hc10 with ⟨wy, rfl, _, _, h⟩ | ⟨_, h⟩
    · rw [H8.out.2.2.2.2.2.2] at h
      exact ⟨wy, rfl, h⟩
    · exact absurd rfl h
  have H10 := Lib.hid (⟨hD10, keep_walO hK10 H9.out.2.1, hw10, hK10.ty H9.out.2.2.1 (by decide), fun j b hj => (World.cell?_of_block (w := w9) (w' := w10) (a := ⟨g0, 0 + j, none⟩) (hK10.2 _ g0 H9.out.2.2.1 (by decide))).trans (H9.out.2.2.2 j b hj)⟩ : IsD w1 pb N (1000 + 500 + 210 + 210) d8 w10 ∧ w10.heap[wx]? = some (walO pb 2 5 t false) ∧ w10.heap[wy]? = some (walO pb 2 5 t false) ∧ Ty w10 5 g0 ∧ Reads w10 g0 0 (gath (fun k => d8.img k) N))
  have HCK := Lib.hid (check_void w1 w10 pb N (1000 + 500 + 210 + 210) d8 H10.out.1 (HT1.out.fr H10.out.1.fr) 2 5 (by omega) (by omega) (by omega) (by omega) H8.out.2.2.1 H8.out.2.2.2.1 H8.out.2.2.2.2.1)
  clear hK10 hD10 hc10 hw10 HOP H9
  go_wp2_with fail
  refine HCK.out.mono ?_
  rintro e w11 ⟨⟨pk, ck, rfl⟩, hF11⟩
  have H11 := Lib.hid (⟨H10.out.1.calm hF11, fr_blk hF11 H10.out.2.1, fr_blk hF11 H10.out.2.2.1, H10.out.2.2.2.2.kept hF11 H10.out.2.2.2.1.lt id, Nat.lt_of_lt_of_le H10.out.2.2.2.1.lt hF11.size⟩ : IsD w1 pb N (1000 + 500 + 210 + 210) d8 w11 ∧ w11.heap[wx]? = some (walO pb 2 5 t false) ∧ w11.heap[wy]? = some (walO pb 2 5 t false) ∧ Reads w11 g0 0 (gath (fun k => d8.img k) N) ∧ g0 < w11.heap.size)
  have HO := Lib.hid H11.out.1.opsOf
  have HIM := Lib.hid (imageX H11.out.1)
  have HLN : Hid ((gath (fun k => d8.img k) N).length = N * 256) := Lib.hid (gath_length (N := N) (fun k hk => H11.out.1.len (by omega) (by omega)) N (Nat.le_refl _))
  clear hF11 HCK H10
  go_wp2_with fail
  refine HO.out.mono ?_
  rintro e w' ⟨rfl, rfl⟩
  go_wp2_with fail
  refine HIM.out.mono ?_
  rintro e w12 ⟨g1, rfl, _, hty1, hR1, hF12⟩
  have HSB := Lib.hid (same_true w12 (some ⟨g1, 0, none⟩) (some ⟨g0, 0, none⟩) w12.heap.size w12.heap.size (N * 256) (N * 256) (N * 256) (gath (fun k => d8.img k) N) (rd_reads hR1 hty1.lt) (rd_reads (H11.out.2.2.2.1.kept hF12 H11.out.2.2.2.2 id) (Nat.lt_of_lt_of_le H11.out.2.2.2.2 hF12.size)) HLN.out (by omega))
  have H12 := Lib.hid (⟨H11.out.1.calm hF12, fr_blk hF12 H11.out.2.1, fr_blk hF12 H11.out.2.2.1⟩ : _ ∧ _ ∧ _)
  clear hty1 hR1 hF12 HIM HO H11
  go_wp2_with fail
  refine HSB.out.mono ?_
  rintro e w13 ⟨rfl, hC13⟩
  have hF13 := hC13.fr
  have H13 := Lib.hid (⟨H12.out.1.calm hF13, fr_blk hF13 H12.out.2.1, fr_blk hF13 H12.out.2.2⟩ : _ ∧ _ ∧ _)
  have HTX := Lib.hid (turnW H13.out.2.1)
  have HTY := Lib.hid (turnW H13.out.2.2)
  clear hC13 hF13 HSB H12
  go_wp2_with fail
  refine HTX.out.mono ?_
  rintro e w' ⟨rfl, rfl⟩
  go_wp2_with fail
  refine HTY.out.mono ?_
  rintro e w' ⟨rfl, rfl⟩
  go_wp2_with fail
  go_ret
  exact ⟨by simp, (HF0.out.trans H1.out (fun _ _ e => e)).trans H13.out.1.fr (fun _ _ e => e)⟩
/-! ### the row -/
theorem laidOut : laidOutB Tryz.prog = true := by kernel_rfl
theorem own : ownKnob Tryz.prog.godebug = none := by kernel_rfl
set_option maxRecDepth 100000 in
theorem lifted (os : Os) (started : os.Started) (H : Type) (enc : TypeId × Value → H) :
    ReturnsInHanded {} Tryz.checked os 4 .any (fun w args => (Rows.walAgainSpec.pre enc Tryz.prog Tryz.f4 [] false w args ∧ laidMetH Tryz.prog cr.laidL w) ∧ sizedMet enc Tryz.prog Tryz.f4 (OpenSpec.ofChange Rows.walAgainSpec) false w args)
      (Rows.walAgainSpec.post enc Tryz.prog Tryz.f4 false true false false) := by
  refine returnsInHanded_of_change_and (C := Tryz.checked) (X := fun w _ => laidMetH Tryz.prog cr.laidL w) (fun _ _ _ hh h => h.of_heap hh) own started (by kernel_rfl) Tryz.func4
    (ChangeSpec.witness_shaped (enc := enc) (C := Tryz.checked) (os := os) (X := fun w _ => laidMetH Tryz.prog cr.laidL w) false (World.doorLaid Tryz.prog 400 os) #[.int .i64 0, .slice none 0 0, .int .u8 0, .agg #[.int .i64 0, .slice none 0 0]] 8 rfl (World.shaped_of_RefB (by kernel_rfl) (by kernel_rfl)) (by kernel_rfl) (by kernel_rfl) (by kernel_rfl) (cr.door_met os _)) ?_
  intro W base args ds gs before hval0 hW _ hsz0 hL _
  have hval : ∀ (j : Nat) t v, Tryz.f4.params[j]? = some t → args[j]? = some v → Value.okWide Tryz.prog W .any base t v := hval0
  have hsz : (DataW.weightsEach Tryz.prog (Tryz.f4.params.toList ++ Rows.walAgainSpec.plain.varTypes Tryz.prog) (ds ++ gs)).all (· ≤ reachBytes) = true := hsz0
  have hW' := hW
  obtain ⟨p, q, hA0, hV, rfl, hfz, hnd⟩ := hW
  have hA : DataW.TrodAll enc Tryz.prog W 0 (fun _ => true) true Tryz.f4.params.toList args.toList ds p := hA0
  rw [Tryz.params4] at hA hval hsz
  obtain ⟨v0, vs0, d0, ds0, p0, q0, hargs, rfl, rfl, h0, r0⟩ := trodAll_cons hA
  obtain ⟨v1, vs1, d1, ds1, p1, q1, rfl, rfl, rfl, h1, r1⟩ := trodAll_cons r0
  obtain ⟨v2, vs2, d2, ds2, p2, q2, rfl, rfl, rfl, h2, r2⟩ := trodAll_cons r1
  obtain ⟨v3, vs3, d3, ds3, p3, q3, rfl, rfl, rfl, h3, r3⟩ := trodAll_cons r2
  obtain ⟨rfl, rfl, rfl⟩ := trodAll_nil r3
  obtain rfl : args = #[v0, v1, v2, v3] := by cases args; simp_all
  obtain ⟨rfl, rfl⟩ := trodVars_none hV
  obtain ⟨a0, rfl, rfl, rfl, w0⟩ := open_int Tryz.underlying3 (hval 0 3 v0 rfl rfl) h0
  obtain ⟨A1, cap1, l1, rfl, hr1, hA1, hc1, hl1⟩ := ints_open (fun _ => rfl) (fun el sp (e : d1 = .slice el sp) => sized_slice hsz (j := 1) (t := 22) (e := 3) rfl (by rw [e]; rfl) Tryz.underlying22) (hval 1 22 v1 rfl rfl) h1
  obtain ⟨a2, rfl, rfl, rfl, w2⟩ := open_int Tryz.underlying5 (hval 2 5 v2 rfl rfl) h2
  have hw3 : ∀ n ∈ d3.weights Tryz.prog 41, n ≤ reachBytes := fun n hn => by
    have := List.all_eq_true.1 hsz n (by simp [DataW.weightsEach, hn])
    simpa using this
  obtain ⟨z3, v3', l3, rfl, hp3⟩ := cut_open (fun _ => rfl) hw3 (hval 3 41 v3 rfl rfl) h3
  clear hA0 hval0 hsz0
  simp only [List.append_nil] at hW'
  try simp only [List.nil_append] at hW'
  have hlt1 : ∀ x ∈ p1, x.block < W.heap.size := fun x hx => by simpa using hW'.lt x (by simp [hx])
  have hlt3 : ∀ x ∈ p3, x.block < W.heap.size := fun x hx => by simpa using hW'.lt x (by simp [hx])
  obtain ⟨x, rfl⟩ := cr.u8_of_wf w2
  have hT := cr.tab_of_laid hL
  refine (walk a0 A1 cap1 l1 x z3 v3' l3 W hr1 hl1 hp3 hT).mono fun e W' ⟨he, hg⟩ => ?_
  subst he
  have hB : Below W.heap.size W W' := hg.below (Nat.le_refl _) (fun _ _ e => e.elim)
  have t1 := Below.trod laidOut (by kernel_rfl) (of_decide_eq_true (by kernel_rfl)) h1 hB hlt1
  have t3 := Below.trod laidOut (by kernel_rfl) (of_decide_eq_true (by kernel_rfl)) h3 hB hlt3
  exact ⟨_, rfl, _, _, _, [], _, [], hW', trodAll_cons_mk (shut_bool Tryz.underlying4 _) trodAll_mk0, (trodAll_cons_mk (shut_int Tryz.underlying3 w0) (trodAll_cons_mk t1 (trodAll_cons_mk (shut_int Tryz.underlying5 w2) (trodAll_cons_mk t3 trodAll_mk0)))), rfl, hB.frame _, fun h => by cases h⟩

theorem over : Rows.walAgainRow.holds Tryz.pinned (OpenSpec.ofChange Rows.walAgainSpec) :=
  OpenClaim.holds_of_wide 4 Tryz.f4 rfl rfl rfl rfl rfl rfl rfl ⟨rfl, rfl, rfl, rfl, rfl⟩ rfl rfl rfl rfl rfl (by kernel_rfl) Tryz.func4 (by kernel_rfl)
    (of_decide_eq_true (by kernel_rfl)) (by unfold Func.isWrapper; first | (rw [if_pos (by decide +kernel)]; kernel_rfl) | (rw [if_neg (by decide +kernel)]; exact ⟨rfl, rfl⟩))
    (fun os started H enc _ => lifted os started H enc)

theorem proved : Rows.WalAgainCardSaid :=
  Claim7.holds_tied_plain_at .later [] [.data] true Rows.walAgainCard.stood.harness false
    over (fun _ h => by cases h) (by kernel_rfl) (fun _ h => by cases h) walAgain_row_tie rfl ⟨rfl, rfl⟩ (by kernel_rfl) rfl
    (fun f fn hf hfn => by
      obtain rfl : f = 4 := Option.some.inj ((show Tryz.prog.funcNamed "sutler/sutlerlaw04.WalAgain" = some 4 by kernel_rfl).symm.trans hf) |>.symm
      obtain rfl : fn = Tryz.f4 := (Option.some.inj (Tryz.func4.symm.trans hfn)).symm
      exact ⟨by kernel_rfl, fun j t ht => by
        rw [Tryz.params4] at ht
        have hm : t ∈ [3, 22, 5, 41] := by simpa using Array.mem_of_getElem? ht
        have hall : ([3, 22, 5, 41].all fun u => !Tryz.prog.wantsStandIn u) = true := by kernel_rfl
        exact (show Tryz.prog.wantsStandIn t = false by simpa using List.all_eq_true.1 hall t hm)⟩)
    (by kernel_rfl)
#print axioms proved

end Go.Proofs.YtflapnbpaodhaaaGreatDoor.walAgain
