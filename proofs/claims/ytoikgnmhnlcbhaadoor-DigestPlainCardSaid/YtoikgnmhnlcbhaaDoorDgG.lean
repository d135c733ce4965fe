/-
  The document's Sum, Hex, Parse, Of.
-/
import Derived.Test.YtoikgnmhnlcbhaaDoorDgF
import Derived.Lib.ConvBytes
import Derived.Laws.IdiomStrings
import Derived.Lib.Strings
namespace Go.Proofs.YtoikgnmhnlcbhaaDoor.dg
set_option maxRecDepth 100000
open Go.RowKit Go.Maps
set_option maxRecDepth 100000

set_option maxHeartbeats 4000000 in
theorem rsum (w : World) (B : Option Addr) (bc : Nat) (b : Bts) (hb : Rd w w.heap.size B b) (hB : B = none → bc = 0) (hbl : b.length ≤ 100000) :
    Calls Tryd.prog 10 #[.slice B b.length bc] w fun e w' => e = .returned (dgV (digV [] b)) ∧ Fr (fun _ => False) w w' := by
  have HF := Lib.hid ((Fr.refl (fun _ => False) w).alloc (.cells (dgC no32) 24))
  have HZ := Lib.hid (heap_alloc_new w (.cells (dgC no32) 24))
  have HK := Lib.hid (show Calls Tryd.prog 18 #[.slice none 0 0, .slice B b.length bc] (w.alloc (.cells (dgC no32) 24)) (DigR (w.alloc (.cells (dgC no32) 24)) (digV [] b, 0)) from
    rkeyed_ok _ none 0 [] B bc b (Rd.nil _ _ _) (fun _ => rfl) (Nat.zero_le _) ((hb.still HF.out (Nat.le_refl _)).more HF.out.size) hB hbl)
  obtain ⟨m, hm⟩ : ∃ m, m = b.length := ⟨_, rfl⟩
  obtain ⟨d, hd⟩ : ∃ d, d = digV [] b := ⟨_, rfl⟩
  have hdl : d.length = 32 := by rw [hd]; exact digV_length _ _
  rw [← hm, ← hd] at HK
  rw [← hm] at hbl ⊢
  rw [← hd]
  have HDL := Lib.hid hdl
  clear hb hB hm hd hdl
  go_enter Tryd.func10, Tryd.ntmps10
  go_wp2_with (first
    | ((with_reducible refine wpList_allocDg ?_ ?_ ?_); (exact rfl); (exact rfl))
    | (go_at_call 18; refine HK.out.mono ?_; rintro e w2 ⟨rfl, hF2⟩; have H2 := Lib.hid (show w2.heap[w.heap.size]? = some (.cells (dgC no32) 24 (0, 0)) ∧ w.heap.size < w2.heap.size ∧ Fr (fun _ => False) w w2 from ⟨(hF2.block _ (size_up _ _) id).trans HZ.out, Nat.lt_of_lt_of_le (size_up _ _) hF2.size, HF.out.trans hF2 (fun _ _ e => e)⟩); clear hF2)
    | ((with_reducible refine wpList_storeDg ?_ (.tmp 3) (.tmp 8) ?_ w2.heap.size d no32 HDL.out ?_ ?_ ?_ (heap_alloc_new w2 _) ?_); (exact rfl); (exact rfl); (exact rfl); (exact rfl); (exact rfl); intro w4 h4 hF4 hs4; have H4 := Lib.hid (show w4.heap[w2.heap.size]? = some (.cells (dgC d) 24 (0, 0)) ∧ w4.heap[w.heap.size]? = some (.cells (dgC no32) 24 (0, 0)) ∧ Fr (fun _ => False) w w4 from by
        have h := ((Fr.refl (fun _ => False) w2).alloc (.cells (dgC no32) 24)).trans (hF4.mono (S := fun i => w2.heap.size ≤ i) (fun i e => by omega)) (fun _ hi e => absurd hi (by omega))
        exact ⟨h4, (h.block _ H2.out.2.1 id).trans H2.out.1, H2.out.2.2.trans h (fun _ _ e => e)⟩); clear h4 hF4 hs4)
    | ((with_reducible refine wpList_loadDg ?_ (.tmp 3) ?_ w2.heap.size d HDL.out ?_ H4.out.1 ?_); (exact rfl); (exact rfl); (exact rfl))
    | ((with_reducible refine wpList_storeDg ?_ (.tmp 2) (.tmp 10) ?_ w.heap.size d no32 HDL.out ?_ ?_ ?_ H4.out.2.1 ?_); (exact rfl); (exact rfl); (exact rfl); (exact rfl); (exact rfl); intro w5 h5 hF5 hs5; have H5 := Lib.hid h5; have HF5 := Lib.hid hF5; clear h5 hF5 hs5))
  try go_frame
  exact bodyPost_ret (v := dgV d) (results_dg rfl _ _ w.heap.size d HDL.out rfl H5.out) rfl ⟨rfl, (H4.out.2.2.trans (HF5.out.mono (S := fun i => w.heap.size ≤ i) (fun i e => by omega)) (fun _ hi e => absurd hi (by omega)))⟩
/-! ### texts -/
abbrev tx (l : Bts) : ByteArray := ⟨l.toArray⟩
theorem toL (s : ByteArray) : s.toList = s.data.toList := ByteArray.toList_eq s
theorem tx_toL (l : Bts) : (tx l).toList = l := by rw [toL]
theorem tx_of (s : ByteArray) : tx s.toList = s := by rw [toL]
theorem tx_size (l : Bts) : (tx l).size = l.length := by show l.toArray.size = _; simp
theorem toL_len (s : ByteArray) : s.toList.length = s.size := by rw [toL]; rfl
theorem tx_ext (s : ByteArray) (a b : Nat) : s.extract a b = tx ((s.toList.drop a).take (b - a)) := by rw [Go.Lib.extract_eq, toL]
theorem tx_app (a b : Bts) : tx a ++ tx b = tx (a ++ b) := by
  have h : (tx a ++ tx b).toList = a ++ b := by
    rw [toL]
    simp
  rw [← tx_of (tx a ++ tx b), h]
def sixL : Bts := (List.range 16).map hexD
theorem six_cut (q : Nat) (hq : q < 16) : (sixL.drop q).take 1 = [hexD q] := by
  have : ∀ k : Fin 16, (sixL.drop k.val).take 1 = [hexD k.val] := by decide +kernel
  exact this ⟨q, hq⟩
theorem six_lit : (⟨#[48, 49, 50, 51, 52, 53, 54, 55, 56, 57, 97, 98, 99, 100, 101, 102]⟩ : ByteArray) = tx sixL := by
  have : sixL = [48, 49, 50, 51, 52, 53, 54, 55, 56, 57, 97, 98, 99, 100, 101, 102] := by decide
  rw [this]
theorem hex_cut (q : Nat) (hq : q < 16) (w : World) : (Instr.slice 9 (.string ⟨#[48, 49, 50, 51, 52, 53, 54, 55, 56, 57, 97, 98, 99, 100, 101, 102]⟩) (some (.int .i64 (q : Int))) (some (.int .i64 ((q : Int) + 1))) none).run Tryd.prog w = .ok (.string (tx [hexD q])) w := by
  have hz : (⟨#[48, 49, 50, 51, 52, 53, 54, 55, 56, 57, 97, 98, 99, 100, 101, 102]⟩ : ByteArray).size = 16 := rfl
  rw [run_slice_string w 9 _ .i64 .i64 (q : Int) ((q : Int) + 1) Tryd.underlying9 (by omega) (by omega) (by rw [hz]; omega), tx_ext, six_lit, tx_toL]
  rw [show ((q : Int) + 1).toNat = q + 1 by omega, Int.toNat_natCast, Nat.add_sub_cancel_left, six_cut q hq]
theorem hexV_snoc (l : Bts) (x : UInt8) : hexV (l ++ [x]) = hexV l ++ [hexD (x.toNat / 16)] ++ [hexD (x.toNat % 16)] := by
  induction l with
  | nil => rfl
  | cons y l ih => simp only [List.cons_append, hexV, ih]
set_option maxHeartbeats 4000000 in
theorem rhex (w : World) (d : Bts) (hd : d.length = 32) : Calls Tryd.prog 12 #[dgV d] w fun e w' => e = .returned (.string (tx (hexV d))) ∧ Fr (fun _ => False) w w' := by
  have HD := Lib.hid hd
  clear hd
  have HZ := Lib.hid (heap_alloc_new w (.cells (dgC d) 24))
  have HF := Lib.hid ((Fr.refl (fun _ => False) w).alloc (.cells (dgC d) 24))
  go_enter Tryd.func12, Tryd.ntmps12
  go_wp2_with ((with_reducible refine wpList_boxDg ?_ (.tmp 0) ?_ d ?_ ?_); (exact rfl); (exact rfl); (exact rfl))
  go_loopw [3, 4, 5] (fun v3 v4 _ wr => ∃ (k : Nat) (s : ByteArray), k ≤ 32 ∧ v4 = .int .i64 (k : Int) ∧ v3 = .string s ∧ Hid (s = tx (hexV (d.take k)) ∧ wr.heap[w.heap.size]? = some (.cells (dgC d) 24 (0, 0)) ∧ Fr (fun _ => False) w wr)) (fun _ v _ _ => 32 - (intOf v).toNat)
  case atStart => exact ⟨0, _, Nat.zero_le _, rfl, rfl, (show Hid _ from Lib.hid ⟨rfl, HZ.out, HF.out⟩)⟩
  case round =>
    obtain ⟨k, s, hk, rfl, rfl, HK⟩ := hrel
    by_cases hlt : k < 32
    · have hk32 : (k : Int) < 32 := by omega
      have hkd : k < d.length := by rw [HD.out]; exact hlt
      have d0 := dg_cell HK.out.2.1 k hkd
      have x2 := ixDg w.heap.size k hlt (k : Int) rfl
      obtain ⟨c, hc⟩ : ∃ c, c = d.getD k 0 := ⟨_, rfl⟩
      have hc256 := c.toNat_lt
      have HS := Lib.hid (show s ++ (tx [hexD (c.toNat / 16)] ++ tx [hexD (c.toNat % 16)]) = tx (hexV (d.take (k + 1))) from by
        have hg : d[k] = c := by rw [hc, List.getD_eq_getElem?_getD, List.getElem?_eq_getElem hkd]; rfl
        rw [HK.out.1, tx_app, tx_app, List.take_succ_eq_append_getElem hkd, hexV_snoc, hg, List.append_assoc])
      rw [← hc] at d0
      obtain ⟨n, hn⟩ : ∃ n, n = c.toNat := ⟨_, rfl⟩
      rw [← hn] at d0 HS hc256
      obtain ⟨q, hq⟩ : ∃ q, q = n / 16 := ⟨_, rfl⟩
      obtain ⟨r, hr⟩ : ∃ r, r = n % 16 := ⟨_, rfl⟩
      rw [← hq, ← hr] at HS
      have hq1 : (n : Int) / 16 = (q : Int) := by omega
      have hr1 : (n : Int) % 16 = (r : Int) := by omega
      have hq16 : (q : Int) < 16 := by omega
      have hr16 : (r : Int) < 16 := by omega
      have y1 := hex_cut q (by omega)
      have y2 := hex_cut r (by omega)
      obtain ⟨s1, hs1⟩ : ∃ x, x = tx [hexD q] := ⟨_, rfl⟩
      obtain ⟨s2, hs2⟩ : ∃ x, x = tx [hexD r] := ⟨_, rfl⟩
      have z1 : s1.size + s2.size ≤ 9223372036854775807 := by
        have h4 : s1.size + s2.size = 2 := by rw [hs1, hs2]; rfl
        omega
      have z2 : s.size + (s1.size + s2.size) ≤ 9223372036854775807 := by
        have h3 : s.size ≤ 64 := by rw [HK.out.1, tx_size, hexV_length, List.length_take]; omega
        have h4 : s1.size + s2.size = 2 := by rw [hs1, hs2]; rfl
        omega
      rw [← hs1] at y1 HS
      rw [← hs2] at y2 HS
      clear hc hkd hq hr hn hs1 hs2
      go_wp2_with fail
      go_region
      have HNX := Lib.hid (show s ++ (s1 ++ s2) = tx (hexV (d.take (k + 1))) ∧ wr.drew.heap[w.heap.size]? = some (.cells (dgC d) 24 (0, 0)) ∧ Fr (fun _ => False) w wr.drew from ⟨HS.out, HK.out.2.1, HK.out.2.2.drew⟩)
      go_wp2_with fail
      go_roundw
      case rel => exact ⟨k + 1, _, by omega, by go_num, rfl, HNX⟩
      case measure => simp [intOf]; omega
    · obtain rfl : k = 32 := by omega
      have HE := Lib.hid (show s = tx (hexV d) from by have := HK.out.1; rwa [List.take_of_length_le (Nat.le_of_eq HD.out)] at this)
      go_wp2_with fail
      go_ret
      exact ⟨by rw [← HE.out]; rfl, HK.out.2.2⟩
end Go.Proofs.YtoikgnmhnlcbhaaDoor.dg
