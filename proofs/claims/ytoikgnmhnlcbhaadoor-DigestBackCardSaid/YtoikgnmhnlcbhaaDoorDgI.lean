/-
  The document's Parse, Of: the walks.
-/
import Derived.Test.YtoikgnmhnlcbhaaDoorDgH
namespace Go.Proofs.YtoikgnmhnlcbhaaDoor.dg
set_option maxRecDepth 100000
open Go.RowKit Go.Maps
set_option maxRecDepth 100000

/-- The two cells of Parse: the result, what is read. -/
abbrev PaW (w wr : World) (d : Bts) : Prop := wr.heap[w.heap.size]? = some (.cells (dgC no32) 24 (0, 0)) ∧ wr.heap[w.heap.size + 1]? = some (.cells (dgC d) 24 (0, 0)) ∧ Fr (fun _ => False) w wr ∧ w.heap.size + 1 < wr.heap.size
theorem pa_start {w w3 : World} (h : w3.heap[(w.alloc (.cells (dgC no32) 24)).heap.size]? = some (.cells (dgC no32) 24 (0, 0))) (hF : Fr (· = (w.alloc (.cells (dgC no32) 24)).heap.size) ((w.alloc (.cells (dgC no32) 24)).alloc (.cells (dgC no32) 24)) w3) : PaW w w3 no32 := by
  have hs : (w.alloc (.cells (dgC no32) 24)).heap.size = w.heap.size + 1 := World.size_alloc _ _
  have h1 : Fr (fun _ => False) (w.alloc (.cells (dgC no32) 24)) w3 := ((Fr.refl _ _).alloc _).trans (hF.mono (S := fun i => (w.alloc (.cells (dgC no32) 24)).heap.size ≤ i) (fun i e => by omega)) (fun _ hi e => absurd hi (by omega))
  rw [hs] at h
  exact ⟨(h1.block _ (size_up _ _) id).trans (heap_alloc_new _ _), h, ((Fr.refl _ _).alloc _).trans h1 (fun _ _ e => e), (Array.getElem?_eq_some_iff.1 h).1⟩
theorem pa_set {w wr : World} {d : Bts} (h : PaW w wr d) (k : Nat) (c : UInt8) : PaW w (wr.setCell ⟨w.heap.size + 1, k, none⟩ (.int .u8 (c.toNat : Int))) (d.set k c) := by
  have hF : Fr (fun i => i = w.heap.size + 1) wr (wr.setCell ⟨w.heap.size + 1, k, none⟩ (.int .u8 (c.toNat : Int))) := (Fr.refl (fun i => i = w.heap.size + 1) wr).setCell (p := ⟨w.heap.size + 1, k, none⟩) (Or.inl rfl) _
  exact ⟨(hF.block _ (by have := h.2.2.2; omega) (by omega)).trans h.1, dg_set h.2.1 k c, h.2.2.1.setCell (p := ⟨w.heap.size + 1, k, none⟩) (Or.inr (by show w.heap.size ≤ w.heap.size + 1; omega)) _, by rw [World.size_setCell]; exact h.2.2.2⟩
theorem PaW.drew {w wr : World} {d : Bts} (h : PaW w wr d) : PaW w wr.drew d := ⟨h.1, h.2.1, h.2.2.1.drew, h.2.2.2⟩
set_option maxHeartbeats 8000000 in
theorem rparse_no (w : World) (S : ByteArray) (hS : S.size ≠ 64) (hb0 : S.size ≤ maxLen) : Calls Tryd.prog 20 #[.string S] w (DigR w (no32, 160)) := by
  have hb : S.size ≤ 9223372036854775807 := hb0
  clear hb0
  obtain ⟨n, hn⟩ : ∃ n, n = S.size := ⟨_, rfl⟩
  rw [← hn] at hS hb
  have hn1 : S.size = n := hn.symm
  have h64 : ((n : Int) != 64) = true := bne_iff_ne.2 (by omega)
  clear hn hS
  go_enter Tryd.func20, Tryd.ntmps20
  go_wp2_with (first
    | ((with_reducible refine wpList_allocDg ?_ ?_ ?_); (exact rfl); (exact rfl))
    | ((with_reducible refine wpList_storeDg ?_ (.tmp 4) (.tmp 6) ?_ (w.alloc (.cells (dgC no32) 24)).heap.size no32 no32 ?_ ?_ ?_ ?_ (heap_alloc_new _ _) ?_); (exact rfl); (exact rfl); (exact rfl); (exact rfl); (exact rfl); (exact rfl); intro w3 h3 hF3 hs3; have HP := Lib.hid (pa_start h3 hF3); clear h3 hF3 hs3))
  go_loopw [5] (fun v wr => v = .int .i64 0 ∧ Hid (PaW w wr no32)) (fun v _ => 0)
  case atStart => exact ⟨rfl, HP⟩
  case round =>
    obtain ⟨rfl, HK⟩ := hrel
    by_cases h0 : (0 : Int) < (n : Int)
    all_goals
      go_wp2_with (first
        | ((with_reducible refine wpList_storeDg ?_ (.tmp 2) (.tmp 23) ?_ w.heap.size no32 no32 ?_ ?_ ?_ ?_ HK.out.1 ?_); (exact rfl); (exact rfl); (exact rfl); (exact rfl); (exact rfl); (exact rfl); intro w4 h4 hF4 hs4; have H4 := Lib.hid h4; have HF4 := Lib.hid hF4; clear h4 hF4 hs4)
        | ((with_reducible refine wpList_storeDg ?_ (.tmp 2) (.tmp 40) ?_ w.heap.size no32 no32 ?_ ?_ ?_ ?_ HK.out.1 ?_); (exact rfl); (exact rfl); (exact rfl); (exact rfl); (exact rfl); (exact rfl); intro w4 h4 hF4 hs4; have H4 := Lib.hid h4; have HF4 := Lib.hid hF4; clear h4 hF4 hs4))
      try go_frame
      exact bodyPost_ret (v := .tuple #[dgV no32, .int .i64 160]) (results_dg2 rfl _ _ w.heap.size no32 (.int .i64 160) rfl rfl rfl H4.out) rfl ⟨rfl, (HK.out.2.2.1.trans (HF4.out.mono (S := fun i => w.heap.size ≤ i) (fun i e => by omega)) (fun _ hi e => absurd hi (by omega)))⟩
theorem ix_text (S : ByteArray) (s : Bts) (hs : S = tx s) (k : Nat) (hk : k < s.length) (w : World) : (Instr.index 9 (.string S) (.int .i64 (k : Int))).run Tryd.prog w = .ok (.int .u8 ((s.getD k 0).toNat : Int)) w := by
  have hsz : S.size = s.length := by rw [hs, tx_size]
  rw [run_index_string (P := Tryd.prog) w 9 S .i64 k Tryd.underlying9, dif_pos ⟨by omega, by omega⟩]
  subst hs
  rw [List.getD_eq_getElem?_getD, List.getElem?_eq_getElem hk]
  rfl
set_option maxHeartbeats 16000000 in
theorem rparse_ok (w : World) (s : Bts) (hs : s.length = 64) : Calls Tryd.prog 20 #[.string (tx s)] w (DigR w (parseV s)) := by
  obtain ⟨S, hS⟩ : ∃ S, S = tx s := ⟨_, rfl⟩
  have HS := Lib.hid hS
  have hn1 : S.size = 64 := by rw [hS, tx_size, hs]
  have HL := Lib.hid hs
  rw [← hS]
  clear hS hs
  go_enter Tryd.func20, Tryd.ntmps20
  go_wp2_with (first
    | ((with_reducible refine wpList_allocDg ?_ ?_ ?_); (exact rfl); (exact rfl))
    | ((with_reducible refine wpList_storeDg ?_ (.tmp 4) (.tmp 6) ?_ (w.alloc (.cells (dgC no32) 24)).heap.size no32 no32 ?_ ?_ ?_ ?_ (heap_alloc_new _ _) ?_); (exact rfl); (exact rfl); (exact rfl); (exact rfl); (exact rfl); (exact rfl); intro w3 h3 hF3 hs3; have HP := Lib.hid (pa_start h3 hF3); clear h3 hF3 hs3))
  go_loopw [5] (fun v wr => ∃ k : Nat, k ≤ 64 ∧ v = .int .i64 (k : Int) ∧ Hid (PaW w wr (partP s k) ∧ ∀ i, i < k → chN s i ≤ 15)) (fun v _ => 64 - (intOf v).toNat)
  case atStart => exact ⟨0, Nat.zero_le _, rfl, (show Hid _ from Lib.hid ⟨HP.out, fun i hi => by omega⟩)⟩
  case round =>
    obtain ⟨k, hk, rfl, HK⟩ := hrel
    by_cases hlt : k < 64
    · have hk64 : (k : Int) < 64 := by omega
      have hix := ix_text S s HS.out k (by rw [HL.out]; exact hlt)
      have HD := Lib.hid (fun wx => rdigit wx (s.getD k 0))
      obtain ⟨x, hx⟩ : ∃ x : Nat, x = (s.getD k 0).toNat := ⟨_, rfl⟩
      obtain ⟨y, hy⟩ : ∃ y : Nat, y = chN s k := ⟨_, rfl⟩
      have HY := Lib.hid hy
      have hy16 : y ≤ 16 := by rw [hy]; exact chN_le s k
      have HD := Lib.hid (show ∀ wx, Calls Tryd.prog 26 #[.int .u8 (x : Int)] wx fun e w' => e = .returned (.int .u8 (y : Int)) ∧ wx = w' from by rw [hx, hy]; exact HD.out)
      rw [← hx] at hix
      clear hx hy
      by_cases hb : y ≤ 15
      case neg =>
        have hb1 : (15 : Int) < (y : Int) := by omega
        have HBAD := Lib.hid (show parseV s = (no32, 160) from by
          unfold parseV
          rw [if_neg]
          intro h
          have := (hex_all s HL.out).1 h k hlt
          rw [← HY.out] at this
          omega)
        rw [HBAD.out]
        clear hb
        go_wp2_with (first
          | (go_at_call 26; refine (HD.out _).mono ?_; rintro e w' ⟨rfl, rfl⟩)
          | ((with_reducible refine wpList_storeDg ?_ (.tmp 2) (.tmp 23) ?_ w.heap.size no32 no32 ?_ ?_ ?_ ?_ HK.out.1.1 ?_); (exact rfl); (exact rfl); (exact rfl); (exact rfl); (exact rfl); (exact rfl); intro w4 h4 hF4 hs4; have H4 := Lib.hid h4; have HF4 := Lib.hid hF4; clear h4 hF4 hs4))
        try go_frame
        exact bodyPost_ret (v := .tuple #[dgV no32, .int .i64 160]) (results_dg2 rfl _ _ w.heap.size no32 (.int .i64 160) rfl rfl rfl H4.out) rfl ⟨rfl, (HK.out.1.2.2.1.trans (HF4.out.mono (S := fun i => w.heap.size ≤ i) (fun i e => by omega)) (fun _ hi e => absurd hi (by omega)))⟩
      case pos =>
        have hb1 : ¬ ((15 : Int) < (y : Int)) := by omega
        obtain ⟨q, hq⟩ : ∃ q, q = k / 2 := ⟨_, rfl⟩
        have hq1 : (k : Int) / 2 = (q : Int) := by omega
        have hq32 : (q : Int) < 32 := by omega
        obtain ⟨o, ho⟩ : ∃ o : Nat, o = ((partP s k).getD q 0).toNat := ⟨_, rfl⟩
        have ho15 : o ≤ 15 := by rw [ho, hq]; exact partP_low s HL.out k hlt HK.out.2
        have d0 : wr.cell? ⟨w.heap.size + 1, q, none⟩ = some (.int .u8 (o : Int)) := by rw [ho]; exact dg_cell HK.out.1.2.1 q (by rw [partP_length]; omega)
        have f0 : wr.frozen? ⟨w.heap.size + 1, q, none⟩ = false := freeAt HK.out.1.2.1 q
        have x2 := ixDg (w.heap.size + 1) q (by omega) (q : Int) rfl
        have HNX := Lib.hid (show PaW w (wr.setCell ⟨w.heap.size + 1, q, none⟩ (.int .u8 ((o : Int) * 16 + (y : Int)))) (partP s (k + 1)) ∧ ∀ i, i < k + 1 → chN s i ≤ 15 from by
          refine ⟨?_, fun i hi => ?_⟩
          · have h := pa_set HK.out.1 q (UInt8.ofNat (o * 16 + y))
            rw [UInt8.toNat_ofNat', Nat.mod_eq_of_lt (by omega), Int.natCast_add, Int.natCast_mul] at h
            have e : partP s (k + 1) = (partP s k).set q (UInt8.ofNat (o * 16 + y)) := by rw [ho, HY.out, hq]; rfl
            rw [e]
            exact h
          · rcases (show i < k ∨ i = k by omega) with h | h
            · exact HK.out.2 i h
            · rw [h, ← HY.out]; exact hb)
        have q0 : IntKind.i64.wrap (q : Int) = (q : Int) := IntWalk.i64_in _ ⟨by omega, by omega⟩
        have q5 : IntKind.u8.wrap ((o : Int) * 16) = (o : Int) * 16 := by rw [IntKind.wrap_u8]; omega
        have q6 : IntKind.u8.wrap ((o : Int) * 16 + (y : Int)) = (o : Int) * 16 + (y : Int) := by rw [IntKind.wrap_u8]; omega
        clear hq ho
        go_wp2_with (go_at_call 26; refine (HD.out _).mono ?_; rintro e w' ⟨rfl, rfl⟩)
        have HDr := Lib.hid (show Calls Tryd.prog 26 #[.int .u8 (x : Int)] wr.drew fun e w' => e = .returned (.int .u8 (y : Int)) ∧ w' = wr.drew from (HD.out _).mono fun _ _ ⟨a, c⟩ => ⟨a, c.symm⟩)
        have d1 : wr.drew.cell? ⟨w.heap.size + 1, q, none⟩ = some (.int .u8 (o : Int)) := d0
        have f1 : wr.drew.frozen? ⟨w.heap.size + 1, q, none⟩ = false := f0
        refine wp_region_still_tail 13 (by kernel_rfl) (by kernel_rfl) ?_
        simp only [List.take_succ_cons, List.take_zero, List.drop_succ_cons, List.drop_zero]
        repeat still_step
        still_call HDr.out
        repeat still_step
        refine wpStill_nil ?_
        change wpList _ _ _ _ _ wr.drew
        go_wp2_with fail
        have HNY := Lib.hid (show PaW w ((wr.setCell ⟨w.heap.size + 1, q, none⟩ (.int .u8 ((o : Int) * 16 + (y : Int)))).drew) (partP s (k + 1)) ∧ ∀ i, i < k + 1 → chN s i ≤ 15 from ⟨PaW.drew HNX.out.1, HNX.out.2⟩)
        go_roundw
        case rel => exact ⟨k + 1, by omega, by go_num, HNY⟩
        case measure => simp [intOf]; omega
    · have hk64 : ¬ ((k : Int) < 64) := by omega
      have HE := Lib.hid (show parseV s = (unpair s, 0) ∧ PaW w wr (unpair s) ∧ (unpair s).length = 32 from by
        have h := HK.out
        have hke : k = 64 := by omega
        rw [hke] at h
        rw [partP_all s HL.out h.2] at h
        refine ⟨by unfold parseV; rw [if_pos ((hex_all s HL.out).2 h.2)], h.1, by rw [unpair_length, HL.out]⟩)
      have HPV := HE
      obtain ⟨d, hd⟩ : ∃ d, d = unpair s := ⟨_, rfl⟩
      have HE := Lib.hid (show PaW w wr d ∧ d.length = 32 from by rw [hd]; exact HE.out.2)
      have HPV := Lib.hid (show parseV s = (d, 0) from by rw [hd]; exact HPV.out.1)
      clear hd HK
      go_wp2_with (first
        | ((with_reducible refine wpList_loadDg ?_ (.tmp 4) ?_ (w.heap.size + 1) d HE.out.2 ?_ HE.out.1.2.1 ?_); (exact rfl); (exact rfl); (exact rfl))
        | ((with_reducible refine wpList_storeDg ?_ (.tmp 2) (.tmp 41) ?_ w.heap.size d no32 HE.out.2 ?_ ?_ ?_ HE.out.1.1 ?_); (exact rfl); (exact rfl); (exact rfl); (exact rfl); (exact rfl); intro w4 h4 hF4 hs4; have H4 := Lib.hid h4; have HF4 := Lib.hid hF4; clear h4 hF4 hs4))
      try go_frame
      exact bodyPost_ret (v := .tuple #[dgV d, .int .i64 0]) (results_dg2 rfl _ _ w.heap.size d (.int .i64 0) HE.out.2 rfl rfl H4.out) rfl ⟨by rw [HPV.out], (HE.out.1.2.2.1.trans (HF4.out.mono (S := fun i => w.heap.size ≤ i) (fun i e => by omega)) (fun _ hi e => absurd hi (by omega)))⟩
theorem rparse (w : World) (s : Bts) (hb : s.length ≤ maxLen) : Calls Tryd.prog 20 #[.string (tx s)] w (DigR w (parseV s)) := by
  by_cases h : s.length = 64
  · exact rparse_ok w s h
  · have e : parseV s = (no32, 160) := by unfold parseV; rw [if_neg (fun k => h k.1)]
    rw [e]
    exact rparse_no w (tx s) (by rw [tx_size]; exact h) (by rw [tx_size]; exact hb)
/-! ### Of -/
theorem conv_rd (w : World) (s : ByteArray) : Rd (Lib.bytesWorld w 5 s) (Lib.bytesWorld w 5 s).heap.size (some ⟨w.heap.size, 0, none⟩) s.data.toList := fun _ => ⟨w.heap.size, 0, rfl, by rw [Lib.bytesWorld_size]; omega, fun j x hj => by
  have hjl := (List.getElem?_eq_some_iff.1 hj).1
  rw [Nat.zero_add, Lib.bytesWorld_cell w _ s j (by rw [Array.length_toList] at hjl; exact hjl), List.getD_eq_getElem?_getD, hj]
  rfl⟩
theorem conv_fr (w : World) (s : ByteArray) : Fr (fun _ => False) w (Lib.bytesWorld w 5 s) := by
  refine ⟨rfl, rfl, rfl, by rw [Lib.bytesWorld_size]; omega, fun i hi _ => Lib.bytesWorld_at_old w _ s i hi⟩
set_option maxHeartbeats 4000000 in
theorem rof (w : World) (b : Bts) (hb : b.length ≤ 100000) : Calls Tryd.prog 14 #[.string (tx b)] w fun e w' => e = .returned (.string (tx (ofV b))) ∧ Fr (fun _ => False) w w' := by
  have kc := Lib.run_convert_string_bytes (P := Tryd.prog) w 9 22 5 (tx b) Tryd.underlying9 Tryd.underlying22 Tryd.underlying5
  have hd : (tx b).data.toList = b := rfl
  have HRD := conv_rd w (tx b)
  have HF := Lib.hid (conv_fr w (tx b))
  rw [hd] at HRD
  obtain ⟨W1, hW1⟩ : ∃ W, W = Lib.bytesWorld w 5 (tx b) := ⟨_, rfl⟩
  obtain ⟨G, hG⟩ : ∃ G, G = grownCap w (tx b).size 0 5 := ⟨_, rfl⟩
  rw [← hG, ← hW1] at kc
  rw [← hW1] at HRD HF
  have HS := Lib.hid (rsum W1 (some ⟨w.heap.size, 0, none⟩) G b HRD (fun e => by cases e) hb)
  have hsz : (tx b).size = b.length := tx_size b
  rw [hsz] at kc
  obtain ⟨S, hS⟩ : ∃ S, S = tx b := ⟨_, rfl⟩
  obtain ⟨n, hn⟩ : ∃ n, n = b.length := ⟨_, rfl⟩
  obtain ⟨d, hdd⟩ : ∃ d, d = digV [] b := ⟨_, rfl⟩
  have HDE := Lib.hid (show ofV b = hexV d from by rw [hdd]; rfl)
  have hdl : d.length = 32 := by rw [hdd]; exact digV_length _ _
  have HH := Lib.hid (fun wx => rhex wx d hdl)
  rw [HDE.out]
  rw [← hS, ← hn] at kc
  rw [← hn, ← hdd] at HS
  rw [← hS]
  clear hS hW1 hG hsz hd HRD hn hdd hdl hb
  go_enter Tryd.func14, Tryd.ntmps14
  go_wp2_with (first
    | (go_at_call 10; refine HS.out.mono ?_; rintro e w2 ⟨rfl, hF2⟩; have HF2 := Lib.hid hF2; clear hF2)
    | (go_at_call 12; refine (HH.out _).mono ?_; rintro e w3 ⟨rfl, hF3⟩; have HF3 := Lib.hid hF3; clear hF3))
  go_ret
  exact ⟨rfl, (HF.out.trans HF2.out (fun _ _ e => e)).trans HF3.out (fun _ _ e => e)⟩
end Go.Proofs.YtoikgnmhnlcbhaaDoor.dg
