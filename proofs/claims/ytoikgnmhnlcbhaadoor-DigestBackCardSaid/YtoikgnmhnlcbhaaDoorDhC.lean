/-
  The program's wordsOf, spread.
-/
import Derived.Test.YtoikgnmhnlcbhaaDoorDhB
namespace Go.Proofs.YtoikgnmhnlcbhaaDoor.dg
set_option maxRecDepth 100000
open Go.RowKit Go.Maps
set_option maxRecDepth 100000

/-! ### wordsOf -/
theorem words_nil : wordsV [] 16 = no16 := by decide +kernel
theorem word_of (x n : Nat) (hx : x < 256) : (x : Int) * 2 ^ n % 4294967296 = uw (BitVec.ofNat 32 x <<< n) := by
  have h := uw_shl (BitVec.ofNat 32 x) n
  rw [uw_ofNat, Nat.mod_eq_of_lt (by omega)] at h
  exact h
set_option maxHeartbeats 8000000 in
theorem pwordsOf (w : World) (B : Option Addr) (bc : Nat) (b : Bts) (hr : Rd w w.heap.size B b) (hl : b.length ≤ 64) :
    Calls Tryd.prog 38 #[.slice B b.length bc] w fun e w' => e = .returned (wsV (wordsV b 16)) ∧ Fr (fun _ => False) w w' := by
  obtain ⟨W1, hW1⟩ : ∃ W, W = (w.alloc (.cells (ws no16).toArray 59)).alloc (.cells (ws no16).toArray 59) := ⟨_, rfl⟩
  obtain ⟨f, hf⟩ : ∃ f, f = w.heap.size := ⟨_, rfl⟩
  have hsz : (w.alloc (.cells (ws no16).toArray 59)).heap.size = f + 1 := by rw [hf]; exact World.size_alloc _ _
  have hF1 : Fr (fun _ => False) w W1 := by rw [hW1]; exact ((Fr.refl _ _).alloc _).alloc _
  have HR1 : WC W1 f no16 := by rw [hW1, hf]; exact (WC.new (w := w) (v := no16) rfl).keep ((Fr.refl (fun _ => False) _).alloc _) id
  have HM1 : WC W1 (f + 1) (wordsV (b.take 0) 16) := by rw [hW1, ← hsz, List.take_zero, words_nil]; exact WC.new rfl
  have HS := Lib.hid (show WC W1 (f + 1) (wordsV (b.take 0) 16) ∧ WC W1 f no16 ∧ Fr (fun _ => False) w W1 from ⟨HM1, HR1, hF1⟩)
  have HR := Lib.hid hr
  have HL := Lib.hid hl
  have HZ := Lib.hid hf
  obtain ⟨n, hn⟩ : ∃ n, n = b.length := ⟨_, rfl⟩
  have HN := Lib.hid hn
  rw [← hn] at hl ⊢
  clear HM1 HR1 hF1 hr hn
  go_enter Tryd.func38, Tryd.ntmps38
  go_wp2_with (first
    | ((with_reducible refine wpList_allocW ?_ ?_ ?_); (exact rfl); (exact rfl)))
  rw [← hW1, ← hf]
  clear hW1 hsz hf
  go_loopw [8] (fun u wr => ∃ k : Nat, k ≤ n ∧ u = .int .i64 (k : Int) ∧ Hid (WC wr (f + 1) (wordsV (b.take k) 16) ∧ WC wr f no16 ∧ Fr (fun _ => False) w wr)) (fun u _ => n - (intOf u).toNat)
  case atStart => exact ⟨0, Nat.zero_le _, rfl, HS⟩
  case round =>
    obtain ⟨k, hk, rfl, HK⟩ := hrel
    by_cases hlt : k < n
    · have hkn : (k : Int) < (n : Int) := by omega
      have hkl : k < b.length := by rw [← HN.out]; exact hlt
      obtain ⟨blk, off, rfl, hbl, hc⟩ := ((HR.out.still HK.out.2.2 (Nat.le_refl _)).at_ hkl)
      obtain ⟨x, hx⟩ : ∃ x : Nat, x = (b.getD k 0).toNat := ⟨_, rfl⟩
      have hx256 : x < 256 := by rw [hx]; exact (b.getD k 0).toNat_lt
      have c0 : wr.cell? ⟨blk, off + k, none⟩ = some (.int .u8 (x : Int)) := by
        rw [hc, hx, List.getD_eq_getElem?_getD, List.getElem?_eq_getElem hkl]; rfl
      obtain ⟨q, hq⟩ : ∃ q, q = k / 4 := ⟨_, rfl⟩
      obtain ⟨r, hr⟩ : ∃ r, r = k % 4 := ⟨_, rfl⟩
      have q1 : (k : Int) / 4 = (q : Int) := by omega
      have q2 : (k : Int).tdiv 4 = (q : Int) := by rw [Int.tdiv_eq_ediv_of_nonneg (by omega)]; exact q1
      have r1 : (k : Int) % 4 = (r : Int) := by omega
      have r2 : (k : Int).tmod 4 = (r : Int) := by rw [Int.tmod_eq_emod_of_nonneg (by omega)]; exact r1
      have q16 : (q : Int) < 16 := by omega
      have r4 : (r : Int) < 4 := by omega
      have c1 := HK.out.1.cell q (by omega)
      have f1 := HK.out.1.free q
      obtain ⟨c, hcc⟩ : ∃ c, c = at_ (wordsV (b.take k) 16) q := ⟨_, rfl⟩
      rw [← hcc] at c1
      obtain ⟨X, hX⟩ : ∃ X, X = BitVec.ofNat 32 x <<< (r * 8) := ⟨_, rfl⟩
      have s1 : (x : Int) * 2 ^ (r * 8) % 4294967296 = uw X := by rw [hX]; exact word_of x (r * 8) hx256
      have s2 := uw_or c X
      have HNX := Lib.hid (show WC (wr.setCell ⟨f + 1, q, none⟩ (.int .u32 (uw (c ||| X)))).drew (f + 1) (wordsV (b.take (k + 1)) 16) ∧ WC (wr.setCell ⟨f + 1, q, none⟩ (.int .u32 (uw (c ||| X)))).drew f no16 ∧ Fr (fun _ => False) w (wr.setCell ⟨f + 1, q, none⟩ (.int .u32 (uw (c ||| X)))).drew from by
        have h1 := HK.out.1.set q (c ||| X)
        have hF : Fr (· = f + 1) wr (wr.setCell ⟨f + 1, q, none⟩ (.int .u32 (uw (c ||| X)))).drew := ((Fr.refl (· = f + 1) wr).setCell (p := ⟨f + 1, q, none⟩) (Or.inl rfl) _).drew
        have e : wordsV (b.take (k + 1)) 16 = (wordsV (b.take k) 16).set q (c ||| X) := by rw [words_step b k (by omega), hcc, hX, hx, hq, hr, Nat.mul_comm 8]
        rw [e]
        exact ⟨⟨h1.blk, h1.len⟩, HK.out.2.1.keep hF (by omega), HK.out.2.2.trans hF (fun i hi e => by have := HZ.out; omega)⟩)
      have HX := Lib.hid hx
      clear hq hr hbl hc hkl hlt hx hcc hX
      go_wp2_with fail
      go_region
      go_wp2_with fail
      go_roundw
      case rel => exact ⟨k + 1, by omega, by go_num, HNX⟩
      case measure => simp [intOf]; omega
    · obtain rfl : k = n := by omega
      have HE := Lib.hid (show WC wr (f + 1) (wordsV b 16) from by have h := HK.out.1; rwa [List.take_of_length_le (Nat.le_of_eq HN.out.symm)] at h)
      go_wp2_with (first
        | ((with_reducible refine wpList_loadW ?_ (.tmp 3) ?_ (f + 1) (wordsV b 16) HE.out ?_ ?_); (exact rfl); (exact rfl); (exact rfl))
        | ((with_reducible refine wpList_storeW ?_ (.tmp 2) (.tmp 26) ?_ f (wordsV b 16) no16 (wordsV_length _ _) HK.out.2.1 ?_ ?_ ?_); (exact rfl); (exact rfl); (exact rfl); (exact rfl); intro w4 h4 hF4 hs4; have H4 := Lib.hid h4; have HF4 := Lib.hid hF4; clear h4 hF4 hs4))
      try go_frame
      exact bodyPost_ret (v := wsV (wordsV b 16)) (results_W rfl _ _ f (wordsV b 16) H4.out rfl) rfl ⟨rfl, HK.out.2.2.trans HF4.out (fun i hi e => by have := HZ.out; omega)⟩
end Go.Proofs.YtoikgnmhnlcbhaaDoor.dg
