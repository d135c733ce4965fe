/-
  The program's Parse, Of, Same: its digests.
-/
import Derived.Test.YtoikgnmhnlcbhaaDoorDhJ
import Derived.Lib.Bytealg
import Derived.Lib.BytesEntry
namespace Go.Proofs.YtoikgnmhnlcbhaaDoor.dg
set_option maxRecDepth 100000
open Go.RowKit Go.Maps
set_option maxRecDepth 100000

/-! ### digits -/
def ixV (c : UInt8) : Int := if unhex c ≤ 15 then (unhex c : Int) else -1
theorem ix_six (c : UInt8) : Lib.indexByte [48, 49, 50, 51, 52, 53, 54, 55, 56, 57, 97, 98, 99, 100, 101, 102] c = ixV c := by
  have : ∀ n : Fin 256, Lib.indexByte [48, 49, 50, 51, 52, 53, 54, 55, 56, 57, 97, 98, 99, 100, 101, 102] (UInt8.ofNat n.val) = ixV (UInt8.ofNat n.val) := by decide +kernel
  have h := this ⟨c.toNat, c.toNat_lt⟩
  rwa [show UInt8.ofNat c.toNat = c from UInt8.ofNat_toNat] at h
set_option maxHeartbeats 1000000 in
theorem psindex0 (w : World) (c : UInt8) : Calls Tryd.prog 35 #[.string ⟨#[48, 49, 50, 51, 52, 53, 54, 55, 56, 57, 97, 98, 99, 100, 101, 102]⟩, .int .u8 (c.toNat : Int)] w fun e w' => e = .returned (.int .i64 (ixV c)) ∧ w = w' := by
  have h0 := Lib.run_indexByteString (P := Tryd.prog) ⟨#[48, 49, 50, 51, 52, 53, 54, 55, 56, 57, 97, 98, 99, 100, 101, 102]⟩ (c.toNat : Int) w
  have hc : ((c.toNat : Int).toNat).toUInt8 = c := by rw [Int.toNat_natCast]; exact UInt8.ofNat_toNat
  rw [hc] at h0
  have h0 : (Extern.BytealgIndexByte.indexByte #[.string ⟨#[48, 49, 50, 51, 52, 53, 54, 55, 56, 57, 97, 98, 99, 100, 101, 102]⟩, .int .u8 (c.toNat : Int)]).run Tryd.prog w = .ok (.int .i64 (ixV c)) w := by rw [← ix_six]; exact h0
  have H := Lib.hid h0
  obtain ⟨z, hz⟩ : ∃ z, z = c.toNat := ⟨_, rfl⟩
  obtain ⟨R, hR⟩ : ∃ R, R = ixV c := ⟨_, rfl⟩
  rw [← hz, ← hR] at H
  rw [← hz, ← hR]
  clear h0 hc hz hR
  go_enter Tryd.func35, Tryd.ntmps35
  go_wp2
  rw [run_callFunc_extern Tryd.func40 (by kernel_rfl) (by kernel_rfl) (by kernel_rfl) (e := Extern.BytealgIndexByte.indexByte) (by kernel_rfl), H.out]
  simp only [Result.andThen]
  rw [Oper.upon_value]
  go_wp2
  go_ret
  exact ⟨rfl, rfl⟩
set_option maxHeartbeats 1000000 in
theorem psindex (w : World) (c : UInt8) : Calls Tryd.prog 25 #[.string ⟨#[48, 49, 50, 51, 52, 53, 54, 55, 56, 57, 97, 98, 99, 100, 101, 102]⟩, .int .u8 (c.toNat : Int)] w fun e w' => e = .returned (.int .i64 (ixV c)) ∧ w = w' := by
  have H := Lib.hid (psindex0 w c)
  obtain ⟨z, hz⟩ : ∃ z, z = c.toNat := ⟨_, rfl⟩
  obtain ⟨R, hR⟩ : ∃ R, R = ixV c := ⟨_, rfl⟩
  rw [← hz, ← hR] at H
  rw [← hz, ← hR]
  clear hz hR
  go_enter Tryd.func25, Tryd.ntmps25
  go_wp2_with (go_at_call 35; refine H.out.mono ?_; rintro e w' ⟨rfl, rfl⟩)
  go_ret
  exact ⟨rfl, rfl⟩

/-! ### Parse -/
theorem part_two (s : Bts) (hl : s.length = 64) (k : Nat) (hk : k < 32) (hx : ∀ i, i < 2 * k → chN s i ≤ 15) (h1 : chN s (2 * k) ≤ 15) :
    partP s (2 * (k + 1)) = (partP s (2 * k)).set k (UInt8.ofNat (chN s (2 * k) * 16 + chN s (2 * k + 1))) := by
  have h0 : (partP s (2 * k)).getD k 0 = 0 := by
    rw [partP_even s hl k (by omega) hx, List.getD_eq_getElem?_getD, List.getElem?_append_right (by rw [unpair_length, List.length_take]; omega), List.getElem?_replicate]
    split <;> rfl
  have hlen := partP_length s (2 * k)
  show stepP s (stepP s (partP s (2 * k)) (2 * k)) (2 * k + 1) = _
  unfold stepP
  rw [show (2 * k) / 2 = k by omega, show (2 * k + 1) / 2 = k by omega, h0, List.set_set, List.getD_eq_getElem?_getD, List.getElem?_set_self (by omega)]
  congr 2
  show (UInt8.ofNat (0 * 16 + chN s (2 * k))).toNat * 16 + chN s (2 * k + 1) = _
  rw [UInt8.toNat_ofNat', Nat.zero_mul, Nat.zero_add, Nat.mod_eq_of_lt (by omega)]
theorem or_two (a b : Nat) (ha : a ≤ 15) (hb : b ≤ 15) : bits .or .i64 ((a : Int) * 16) (b : Int) = ((a * 16 + b : Nat) : Int) := by
  have : ∀ x y : Fin 16, bits .or .i64 ((x.val : Int) * 16) (y.val : Int) = ((x.val * 16 + y.val : Nat) : Int) := by decide +kernel
  exact this ⟨a, by omega⟩ ⟨b, by omega⟩
theorem quiet_eq {f : FuncId} {args : Array Value} {w : World} {n : Nat} {v : Value} (h : Calls Tryd.prog f args (w.drewN n) fun e w' => e = .returned v ∧ w.drewN n = w') :
    Calls Tryd.prog f args (w.drewN n) fun e w'' => e = .returned v ∧ ∃ m, w'' = w.drewN m :=
  h.mono fun _ _ ⟨he, hm⟩ => ⟨he, n, hm.symm⟩
set_option maxHeartbeats 8000000 in
theorem pparse_no (w : World) (S : ByteArray) (hS : S.size ≠ 64) (hb0 : S.size ≤ maxLen) : Calls Tryd.prog 19 #[.string S] w (DigR w (no32, 160)) := by
  have hb : S.size ≤ 9223372036854775807 := hb0
  clear hb0
  have HZ := Lib.hid (heap_alloc_new w (.cells (dgC no32) 24))
  have HF := Lib.hid ((Fr.refl (fun _ => False) w).alloc (.cells (dgC no32) 24))
  obtain ⟨n, hn⟩ : ∃ n, n = S.size := ⟨_, rfl⟩
  rw [← hn] at hS hb
  have hn1 : S.size = n := hn.symm
  have h64 : ((n : Int) != 64) = true := bne_iff_ne.2 (by omega)
  clear hn hS
  go_enter Tryd.func19, Tryd.ntmps19
  go_wp2_with (first
    | ((with_reducible refine wpList_allocDg ?_ ?_ ?_); (exact rfl); (exact rfl))
    | ((with_reducible refine wpList_storeDg ?_ (.tmp 2) (.tmp 11) ?_ w.heap.size no32 no32 no32_len no32_len ?_ ?_ HZ.out ?_); (exact rfl); (exact rfl); (exact rfl); (exact rfl); intro w5 h5 hF5 hs5; have H5 := Lib.hid h5; have HF5 := Lib.hid hF5; clear h5 hF5 hs5))
  try go_frame
  exact bodyPost_ret (v := .tuple #[dgV no32, .int .i64 160]) (results_dg2 rfl _ _ w.heap.size no32 (.int .i64 160) rfl rfl rfl H5.out) rfl ⟨rfl, (HF.out.trans (HF5.out.mono (S := fun i => w.heap.size ≤ i) (fun i _ e => by omega)) (fun _ hi e => absurd hi (by omega)))⟩
set_option maxHeartbeats 16000000 in
theorem pparse_ok (w : World) (s : Bts) (hs : s.length = 64) : Calls Tryd.prog 19 #[.string (tx s)] w (DigR w (parseV s)) := by
  obtain ⟨S, hS⟩ : ∃ S, S = tx s := ⟨_, rfl⟩
  have HS := Lib.hid hS
  have hn1 : S.size = 64 := by rw [hS, tx_size, hs]
  have HL := Lib.hid hs
  rw [← hS]
  obtain ⟨W1, hW1⟩ : ∃ W, W = (w.alloc (.cells (dgC no32) 24)).alloc (.cells (dgC no32) 24) := ⟨_, rfl⟩
  have hsz : (w.alloc (.cells (dgC no32) 24)).heap.size = w.heap.size + 1 := World.size_alloc _ _
  have HI := Lib.hid (show PaW w W1 (partP s (2 * 0)) ∧ (∀ i, i < 2 * 0 → chN s i ≤ 15) from by
    refine ⟨⟨?_, ?_, ?_, ?_⟩, fun i hi => absurd hi (by omega)⟩
    · rw [hW1]; exact heap_alloc_keep (heap_alloc_new _ _)
    · rw [hW1, ← hsz]; exact heap_alloc_new _ _
    · rw [hW1]; exact ((Fr.refl _ _).alloc _).alloc _
    · rw [hW1, World.size_alloc, hsz]; omega)
  clear hS hs hsz
  go_enter Tryd.func19, Tryd.ntmps19
  go_wp2_with (first
    | ((with_reducible refine wpList_allocDg ?_ ?_ ?_); (exact rfl); (exact rfl)))
  rw [← hW1]
  clear hW1
  go_loopw [12] (fun u wr => ∃ k : Nat, k ≤ 32 ∧ u = .int .i64 (k : Int) ∧ Hid (PaW w wr (partP s (2 * k)) ∧ (∀ i, i < 2 * k → chN s i ≤ 15))) (fun u _ => 32 - (intOf u).toNat)
  case atStart => exact ⟨0, Nat.zero_le _, rfl, HI⟩
  case round =>
    obtain ⟨k, hk, rfl, HK⟩ := hrel
    by_cases hlt : k < 32
    · have hk32 : (k : Int) < 32 := by omega
      have i1 := fun w => ix_text S s HS.out (2 * k) (by rw [HL.out]; omega) w
      have i2 := fun w => ix_text S s HS.out (2 * k + 1) (by rw [HL.out]; omega) w
      rw [Int.natCast_add, Int.natCast_mul] at i2
      rw [Int.natCast_mul] at i1
      have i1 : ∀ w : World, (Instr.index 9 (.string S) (.int .i64 (2 * (k : Int)))).run Tryd.prog w = .ok (.int .u8 ((s.getD (2 * k) 0).toNat : Int)) w := i1
      have i2 : ∀ w : World, (Instr.index 9 (.string S) (.int .i64 (2 * (k : Int) + 1))).run Tryd.prog w = .ok (.int .u8 ((s.getD (2 * k + 1) 0).toNat : Int)) w := i2
      obtain ⟨x, hx⟩ : ∃ x, x = s.getD (2 * k) 0 := ⟨_, rfl⟩
      obtain ⟨y, hy⟩ : ∃ y, y = s.getD (2 * k + 1) 0 := ⟨_, rfl⟩
      have hcx : chN s (2 * k) = unhex x := by rw [hx]; rfl
      have hcy : chN s (2 * k + 1) = unhex y := by rw [hy]; rfl
      rw [← hx] at i1
      rw [← hy] at i2
      have HC1 := Lib.hid (fun m => quiet_eq (psindex (wr.drewN m) x))
      have HC2 := Lib.hid (fun m => quiet_eq (psindex (wr.drewN m) y))
      obtain ⟨p, hp⟩ : ∃ p, p = ixV x := ⟨_, rfl⟩
      obtain ⟨q, hq⟩ : ∃ q, q = ixV y := ⟨_, rfl⟩
      obtain ⟨xn, hxn⟩ : ∃ z, z = x.toNat := ⟨_, rfl⟩
      obtain ⟨yn, hyn⟩ : ∃ z, z = y.toNat := ⟨_, rfl⟩
      rw [← hp, ← hxn] at HC1
      rw [← hq, ← hyn] at HC2
      rw [← hxn] at i1
      rw [← hyn] at i2
      have w1 : IntKind.i64.wrap (2 * (k : Int)) = 2 * (k : Int) := IntWalk.i64_in _ ⟨by omega, by omega⟩
      have w2 : IntKind.i64.wrap (2 * (k : Int) + 1) = 2 * (k : Int) + 1 := IntWalk.i64_in _ ⟨by omega, by omega⟩
      have HP := Lib.hid (show (unhex x ≤ 15 → p = (unhex x : Int)) ∧ (¬ unhex x ≤ 15 → p = -1) from by rw [hp]; unfold ixV; exact ⟨fun h => by rw [if_pos h], fun h => by rw [if_neg h]⟩)
      have HQ := Lib.hid (show (unhex y ≤ 15 → q = (unhex y : Int)) ∧ (¬ unhex y ≤ 15 → q = -1) from by rw [hq]; unfold ixV; exact ⟨fun h => by rw [if_pos h], fun h => by rw [if_neg h]⟩)
      have HX := Lib.hid hcx
      have HY := Lib.hid hcy
      clear hx hy hcx hcy hp hq hxn hyn
      have HBD := Lib.hid (show ∀ i, i < 64 → ¬ chN s i ≤ 15 → parseV s = (no32, 160) from fun i hi hb => by
        unfold parseV
        rw [if_neg]
        intro h
        exact hb ((hex_all s HL.out).1 h i hi))
      rcases (show (¬ unhex x ≤ 15) ∨ (unhex x ≤ 15 ∧ ¬ unhex y ≤ 15) ∨ (unhex x ≤ 15 ∧ unhex y ≤ 15) by omega) with hb | ⟨ha, hb⟩ | ⟨ha, hb⟩
      · have hp0 : p = -1 := HP.out.2 hb
        have HBAD := Lib.hid (HBD.out (2 * k) (by omega) (by rw [HX.out]; exact hb))
        have hp1 : p < 0 := by omega
        have hp2 : ¬ 0 ≤ p := by omega
        clear hp0 hb
        go_wp2_with fail
        go_quiet ((go_at_call 25; first | with_reducible exact HC1.out _ | with_reducible exact HC2.out _))
        have HKq := Lib.hid (show PaW w (wr.drewN nq) (partP s (2 * k)) from ⟨HK.out.1.1, HK.out.1.2.1, HK.out.1.2.2.1.drewN nq, HK.out.1.2.2.2⟩)
        go_wp2_with (first
          | ((with_reducible refine wpList_storeDg ?_ (.tmp 2) (.tmp 32) ?_ w.heap.size no32 no32 no32_len no32_len ?_ ?_ HKq.out.1 ?_); (exact rfl); (exact rfl); (exact rfl); (exact rfl); intro w4 h4 hF4 hs4; have H4 := Lib.hid h4; have HF4 := Lib.hid hF4; clear h4 hF4 hs4))
        try go_frame
        exact bodyPost_ret (v := .tuple #[dgV no32, .int .i64 160]) (results_dg2 rfl _ _ w.heap.size no32 (.int .i64 160) rfl rfl rfl H4.out) rfl ⟨by rw [HBAD.out], (HKq.out.2.2.1.trans (HF4.out.mono (S := fun i => w.heap.size ≤ i) (fun i _ e => by omega)) (fun _ hi e => absurd hi (by omega)))⟩
      · have hp0 : p = (unhex x : Int) := HP.out.1 ha
        have hq0 : q = -1 := HQ.out.2 hb
        have HBAD := Lib.hid (HBD.out (2 * k + 1) (by omega) (by rw [HY.out]; exact hb))
        have hp1 : 0 ≤ p := by omega
        have hp2 : ¬ p < 0 := by omega
        have hq1 : q < 0 := by omega
        have hq2 : ¬ 0 ≤ q := by omega
        clear hp0 hq0 hb ha
        go_wp2_with fail
        go_quiet ((go_at_call 25; first | with_reducible exact HC1.out _ | with_reducible exact HC2.out _))
        have HKq := Lib.hid (show PaW w (wr.drewN nq) (partP s (2 * k)) from ⟨HK.out.1.1, HK.out.1.2.1, HK.out.1.2.2.1.drewN nq, HK.out.1.2.2.2⟩)
        go_wp2_with (first
          | ((with_reducible refine wpList_storeDg ?_ (.tmp 2) (.tmp 32) ?_ w.heap.size no32 no32 no32_len no32_len ?_ ?_ HKq.out.1 ?_); (exact rfl); (exact rfl); (exact rfl); (exact rfl); intro w4 h4 hF4 hs4; have H4 := Lib.hid h4; have HF4 := Lib.hid hF4; clear h4 hF4 hs4))
        try go_frame
        exact bodyPost_ret (v := .tuple #[dgV no32, .int .i64 160]) (results_dg2 rfl _ _ w.heap.size no32 (.int .i64 160) rfl rfl rfl H4.out) rfl ⟨by rw [HBAD.out], (HKq.out.2.2.1.trans (HF4.out.mono (S := fun i => w.heap.size ≤ i) (fun i _ e => by omega)) (fun _ hi e => absurd hi (by omega)))⟩
      · obtain ⟨a, haa⟩ : ∃ a, a = unhex x := ⟨_, rfl⟩
        obtain ⟨b, hbb⟩ : ∃ b, b = unhex y := ⟨_, rfl⟩
        obtain rfl : p = (a : Int) := by rw [haa]; exact HP.out.1 ha
        obtain rfl : q = (b : Int) := by rw [hbb]; exact HQ.out.1 hb
        have ha15 : a ≤ 15 := by omega
        have hb15 : b ≤ 15 := by omega
        have s1 : IntKind.i64.wrap ((a : Int) * 2 ^ min (Int.toNat 4) IntKind.i64.bits) = (a : Int) * 16 := by
          rw [show min (Int.toNat 4) IntKind.i64.bits = 4 from rfl]
          exact IntWalk.i64_in _ ⟨by omega, by omega⟩
        have s2 := or_two a b ha15 hb15
        obtain ⟨c, hc⟩ : ∃ c, c = a * 16 + b := ⟨_, rfl⟩
        rw [← hc] at s2
        have hc256 : (c : Int) < 256 := by omega
        have s3 : (c : Int) % 256 = (c : Int) := by omega
        have d0 : wr.cell? ⟨w.heap.size + 1, k, none⟩ = some (.int .u8 (((partP s (2 * k)).getD k 0).toNat : Int)) := dg_cell HK.out.1.2.1 k (by rw [partP_length]; omega)
        have f0 : wr.frozen? ⟨w.heap.size + 1, k, none⟩ = false := freeAt HK.out.1.2.1 k
        have x2 := ixDg (w.heap.size + 1) k hlt (k : Int) rfl
        have HNX := Lib.hid (fun (nq : Nat) => show PaW w ((wr.drewN nq).setCell ⟨w.heap.size + 1, k, none⟩ (.int .u8 (c : Int))) (partP s (2 * (k + 1))) ∧ ∀ i, i < 2 * (k + 1) → chN s i ≤ 15 from by
          have hK : PaW w (wr.drewN nq) (partP s (2 * k)) := ⟨HK.out.1.1, HK.out.1.2.1, HK.out.1.2.2.1.drewN nq, HK.out.1.2.2.2⟩
          have h := pa_set hK k (UInt8.ofNat c)
          rw [UInt8.toNat_ofNat', Nat.mod_eq_of_lt (by omega)] at h
          rw [part_two s HL.out k hlt HK.out.2 (by rw [HX.out, ← haa]; exact ha15), HX.out, HY.out, ← haa, ← hbb, ← hc]
          refine ⟨h, fun i hi => ?_⟩
          rcases (show i < 2 * k ∨ i = 2 * k ∨ i = 2 * k + 1 by omega) with q | q | q
          · exact HK.out.2 i q
          · rw [q, HX.out]; exact ha
          · rw [q, HY.out]; exact hb)
        have hpa : ¬ (a : Int) < 0 := by omega
        have hpb : ¬ (b : Int) < 0 := by omega
        clear haa hbb hc ha hb HP HQ HX HY
        go_wp2_with fail
        go_quiet ((go_at_call 25; first | with_reducible exact HC1.out _ | with_reducible exact HC2.out _))
        have d1 : (wr.drewN nq).cell? ⟨w.heap.size + 1, k, none⟩ = some (.int .u8 (((partP s (2 * k)).getD k 0).toNat : Int)) := d0
        have f1 : (wr.drewN nq).frozen? ⟨w.heap.size + 1, k, none⟩ = false := f0
        have HNY := Lib.hid (HNX.out nq)
        go_wp2_with fail
        go_roundw
        case rel => exact ⟨k + 1, by omega, by go_num, HNY⟩
        case measure => simp [intOf]; omega
    · obtain rfl : k = 32 := by omega
      have HE := Lib.hid (show parseV s = (unpair s, 0) ∧ PaW w wr (unpair s) ∧ (unpair s).length = 32 from by
        have h := HK.out
        have h2 : ∀ i, i < 64 → chN s i ≤ 15 := fun i hi => h.2 i (by omega)
        have h1 := h.1
        rw [show 2 * 32 = 64 from rfl, partP_all s HL.out h2] at h1
        refine ⟨by unfold parseV; rw [if_pos ((hex_all s HL.out).2 h2)], h1, by rw [unpair_length, HL.out]⟩)
      obtain ⟨d, hd⟩ : ∃ d, d = unpair s := ⟨_, rfl⟩
      have HPV := Lib.hid (show parseV s = (d, 0) from by rw [hd]; exact HE.out.1)
      have HE := Lib.hid (show PaW w wr d ∧ d.length = 32 from by rw [hd]; exact HE.out.2)
      clear hd HK
      go_wp2_with (first
        | ((with_reducible refine wpList_loadDg ?_ (.tmp 4) ?_ (w.heap.size + 1) d HE.out.2 ?_ HE.out.1.2.1 ?_); (exact rfl); (exact rfl); (exact rfl))
        | ((with_reducible refine wpList_storeDg ?_ (.tmp 2) (.tmp 41) ?_ w.heap.size d no32 HE.out.2 ?_ ?_ ?_ HE.out.1.1 ?_); (exact rfl); (exact rfl); (exact rfl); (exact rfl); (exact rfl); intro w4 h4 hF4 hs4; have H4 := Lib.hid h4; have HF4 := Lib.hid hF4; clear h4 hF4 hs4))
      try go_frame
      exact bodyPost_ret (v := .tuple #[dgV d, .int .i64 0]) (results_dg2 rfl _ _ w.heap.size d (.int .i64 0) HE.out.2 rfl rfl H4.out) rfl ⟨by rw [HPV.out], (HE.out.1.2.2.1.trans (HF4.out.mono (S := fun i => w.heap.size ≤ i) (fun i _ e => by omega)) (fun _ hi e => absurd hi (by omega)))⟩
theorem pparse (w : World) (s : Bts) (hb : s.length ≤ maxLen) : Calls Tryd.prog 19 #[.string (tx s)] w (DigR w (parseV s)) := by
  by_cases h : s.length = 64
  · exact pparse_ok w s h
  · have e : parseV s = (no32, 160) := by unfold parseV; rw [if_neg (fun k => h k.1)]
    rw [e]
    exact pparse_no w (tx s) (by rw [tx_size]; exact h) (by rw [tx_size]; exact hb)
end Go.Proofs.YtoikgnmhnlcbhaaDoor.dg
