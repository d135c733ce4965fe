/-
  The statements' helpers begun and all.
-/
import Derived.Test.YtflapnbpaodhaaaGreatDoorHdC
namespace Go.Proofs.YtflapnbpaodhaaaGreatDoor.hd
set_option maxRecDepth 100000
open Go.RowKit Go.Maps ds
set_option maxRecDepth 100000

theorem Live.write {d : DS} (h : Live d) (s : Int) (l : List UInt8) : Live (d.write s l) ∧ (d.write s l).ops = d.ops + 1 := by
  have hw : d.write s l = ⟨fun x => if x = s then l else d.img x, d.sur, fun x y => d.may x y ∨ (x = s ∧ y = l), d.ops + 1, lessOne d.lim, false, false⟩ := if_neg h.not_gone
  rw [hw]
  exact ⟨⟨by show lessOne d.lim = -1; rw [h.1]; rfl, rfl⟩, rfl⟩
theorem Live.sync {d : DS} (h : Live d) : Live d.sync ∧ d.sync.cl = true ∧ d.sync.ops = d.ops + 1 := by
  have hs : d.sync = ⟨d.img, d.img, fun x y => y = d.img x, d.ops + 1, lessOne d.lim, false, true⟩ := if_neg h.not_gone
  rw [hs]
  exact ⟨⟨by show lessOne d.lim = -1; rw [h.1]; rfl, rfl⟩, rfl, rfl⟩
/-- What the helper begun leaves. -/
structure BegP (w0 : World) (pb wb N B : Nat) (w : World) (d : DS) : Prop where
  live : Live d
  dsk : IsD w0 pb N B d w
  wal : w.heap[wb]? = some (walO pb 2 5 0 false)
  lt : w0.heap.size ≤ wb
  ops : 0 ≤ d.ops ∧ d.ops ≤ (B : Int)
theorem keep_walO {w w' : World} {wb pb at_ rc t : Nat} {sp : Bool} (hK : Keep w w') (h : w.heap[wb]? = some (walO pb at_ rc t sp)) : w'.heap[wb]? = some (walO pb at_ rc t sp) := (hK.2 _ wb ⟨_, h⟩ (by decide)).trans h
set_option maxHeartbeats 4000000 in
theorem begun_any (w : World) (hT : cr.Tab w) (N : Nat) (h1 : 9 ≤ N) (h2 : N ≤ 100) :
    Calls Tryz.prog 7 #[.int .i64 (N : Int)] w fun e w' => ∃ pb wb d, e = .returned (.tuple #[.pointer (some ⟨pb, 0, none⟩), .pointer (some ⟨wb, 0, none⟩)]) ∧ BegP w pb wb N 1000 w' d ∧ d.cl = true := by
  have HT := Lib.hid hT
  have HN := Lib.hid (new_good w N (by omega) (by omega))
  have HFU : Hid (∀ w2 (k : Nat), k ≤ 100 → Calls Tryz.prog 26 #[.int .u8 (k : Int)] w2 fun e w' => ∃ g, e = .returned (.slice (some ⟨g, 0, none⟩) 256 256) ∧ w2.heap.size ≤ g ∧ w'.heap[g]? = some (.cells (secC (one (UInt8.ofNat k))) 5 (0, 0)) ∧ Fr (fun _ => False) w2 w') := Lib.hid fun w2 k hk => by
    have h := play.full_one w2 (UInt8.ofNat k)
    rwa [show (((UInt8.ofNat k).toNat : Nat) : Int) = (k : Int) by rw [UInt8.toNat_ofNat_of_lt' (by show k < 256; omega)]] at h
  clear hT
  go_enter Tryz.func7, Tryz.ntmps7
  go_wp2_with fail
  refine HN.out.mono ?_
  rintro e w1 h1'
  obtain ⟨pb, rfl, hD1⟩ := ds.start h1'
  have HF := Lib.hid (format_live hD1 Live.new (HT.out.fr hD1.fr) 2 5 (by omega) (by omega) (by omega) (by omega) (by omega))
  clear h1' hD1 HN
  go_wp2_with fail
  refine HF.out.mono ?_
  rintro e w2 ⟨rfl, d2, hd2, hD2, _⟩
  have HO := Lib.hid (open_live hD2 hd2.live (HT.out.fr hD2.fr) 2 5 (by omega) (by omega) (by omega) (by omega) (by omega) (turn := 0) (by omega) (by show d2.img 2 = _; rw [hd2.img]; rfl))
  have HD2 := Lib.hid (⟨hd2, hD2.fr⟩ : _ ∧ _)
  clear hd2 hD2 HF
  go_wp2_with fail
  refine HO.out.mono ?_
  rintro e w3 ⟨wb, rfl, hs3, hw3, hD3, _⟩
  have H3 := Lib.hid (⟨HD2.out.1.live, isD_big hD3 (by omega) (by omega), hw3, Nat.le_trans HD2.out.2.size hs3, by rw [HD2.out.1.ops]; show 0 ≤ (0 : Int) + 2 ∧ (0 : Int) + 2 ≤ _; omega⟩ : BegP w pb wb N (300 + 4 * 8) w3 d2)
  clear hs3 hw3 hD3 HO HD2
  go_wp2_with fail
  go_loopw [8] (fun v wr => ∃ k : Nat, 8 ≤ k ∧ k ≤ N ∧ v = .int .i64 k ∧ Hid (∃ d, BegP w pb wb N (300 + 4 * k) wr d)) (fun v _ => N - (intOf v).toNat)
  case atStart => exact ⟨8, by omega, by omega, rfl, (show ∃ _, _ from ⟨d2, H3.out⟩)⟩
  case round =>
    obtain ⟨k, hk8, hk, rfl, HK⟩ := hrel
    clear H3
    obtain ⟨d, hB⟩ := HK.out
    have HB := Lib.hid hB
    clear hB HK
    by_cases hlt : k < N
    · go_wp2_with fail
      refine (HFU.out wr k (by omega)).mono ?_
      rintro e w4 ⟨g, rfl, hg1, hg, hF4⟩
      have HW := Lib.hid ((HB.out.dsk.calm hF4).write (by omega) k (by omega) (by omega) g 0 256 (one (UInt8.ofNat k)) (one_length _) ⟨_, hg⟩ (by decide) (reads_arr hg))
      have H4 := Lib.hid (fr_blk hF4 HB.out.wal)
      clear hg1 hg hF4
      go_wp2_with fail
      refine HW.out.mono ?_
      rintro e w5 ⟨rfl, hD5, hK5⟩
      have H5 := Lib.hid (⟨(HB.out.live.write _ _).1, isD_big hD5 (by omega) (by omega), keep_walO hK5 H4.out, HB.out.lt, by have h := HB.out.ops; rw [(HB.out.live.write _ _).2]; omega⟩ : BegP w pb wb N (300 + 4 * (k + 1)) w5 (d.write k (one (UInt8.ofNat k))))
      clear hD5 hK5 HW H4 HB
      go_wp2_with fail
      go_roundw
      case rel => exact ⟨k + 1, by omega, by omega, by go_num, (show ∃ _, _ from ⟨_, H5.out⟩)⟩
      case measure => simp [intOf]; omega
    · obtain rfl : k = N := by omega
      have HS := Lib.hid (HB.out.dsk.sync (by omega))
      go_wp2_with fail
      refine HS.out.mono ?_
      rintro e w5 ⟨rfl, hD5, hK5⟩
      have H5 := Lib.hid (⟨HB.out.live.sync.1, isD_big hD5 (by omega) (by omega), keep_walO hK5 HB.out.wal, HB.out.lt, by have h := HB.out.ops; rw [HB.out.live.sync.2.2]; omega⟩ : BegP w pb wb k 1000 w5 d.sync)
      have HC := Lib.hid HB.out.live.sync.2.1
      clear hD5 hK5 HS HB
      go_wp2_with fail
      go_ret2
      exact ⟨pb, wb, _, rfl, H5.out, HC.out⟩

theorem rd_reads {w : World} {b o B : Nat} {l : List UInt8} (h : Reads w b o l) (hb : b < B) : Rd w B (some ⟨b, o, none⟩) l := fun _ => ⟨b, o, rfl, hb, h⟩
theorem calm_fr {w w' : World} (h : Calm w w') : Fr (fun _ => False) w w' := h.fr
set_option maxHeartbeats 4000000 in
theorem all_any {w0 : World} {pb N B : Nat} {d : DS} (w : World) (hD : IsD w0 pb N B d w) (hL : Live d) (p : Option Addr) (cap : Nat) (l : List (Int × List UInt8)) (hS : BksT w p l) (hi : ∀ x ∈ l, 0 ≤ x.1 ∧ x.1 < N ∧ d.img x.1 = x.2) (hn : l.length ≤ 1000) :
    Calls Tryz.prog 15 #[.pointer (some ⟨pb, 0, none⟩), .slice p l.length cap] w fun e w' => e = .returned (.bool true) ∧ Fr (fun _ => False) w w' := by
  obtain ⟨n, hn'⟩ : ∃ n, n = l.length := ⟨_, rfl⟩
  have HLEN := Lib.hid hn'
  have HD := Lib.hid (⟨hD, hL, hS, hi⟩ : _ ∧ _ ∧ _ ∧ _)
  rw [← hn'] at hn ⊢
  clear hn' hD hL hS hi
  go_enter Tryz.func15, Tryz.ntmps15
  go_wp2_with fail
  go_loopw [5] (fun v wr => ∃ k : Nat, k ≤ n ∧ v = .int .i64 k ∧ Hid (Fr (fun _ => False) w wr)) (fun v _ => n - (intOf v).toNat)
  case atStart => exact ⟨0, Nat.zero_le _, rfl, (show Fr _ _ _ from Fr.refl _ _)⟩
  case round =>
    obtain ⟨k, hk, rfl, HK⟩ := hrel
    by_cases hlt : k < n
    · have hkl : k < l.length := by have := HLEN.out; omega
      obtain ⟨x, hx⟩ : ∃ x, l[k]? = some x := ⟨_, List.getElem?_eq_getElem hkl⟩
      obtain ⟨blk, off, rfl, hty, hbk⟩ := HD.out.2.2.1 (by rintro rfl; simp at hx)
      obtain ⟨x0, x1, x2⟩ := HD.out.2.2.2 x (List.mem_of_getElem? hx)
      obtain ⟨c0, b, o, c, t, c1, hlen, ht, hdk, _, hr⟩ := hbk k x hx
      have hF := HK.out
      have hlt0 := hty.lt
      have hlt1 := ht.lt
      have C0 : wr.cell? ⟨blk, off + k * 2, none⟩ = some (.int .i64 x.1) := (World.cell?_of_block (w := w) (w' := wr) (a := ⟨blk, off + k * 2, none⟩) (hF.block blk hlt0 id)).trans c0
      have HRD := Lib.hid ((HD.out.1.calm hF).read HD.out.2.1.2 x.1 x0 x1)
      obtain ⟨xa, hxa⟩ : ∃ xa, xa = x.1 := ⟨_, rfl⟩
      rw [← hxa] at C0 HRD x0 x1 x2
      have HX := Lib.hid (⟨hlt0, hlt1, c1, hr, hlen, x2⟩ : _ ∧ _ ∧ _ ∧ _ ∧ _ ∧ _)
      clear hxa hx hkl hty hbk c0 c1 hlen ht hdk hr hF hlt0 hlt1 x2
      go_wp2_with fail
      refine HRD.out.mono ?_
      rintro e w4 ⟨g, rfl, hg1, hg, hF4⟩
      have hF := HK.out.trans hF4 (fun _ _ e => e)
      have C1 : w4.cell? ⟨blk, off + k * 2 + 1, none⟩ = some (.slice (some ⟨b, o, none⟩) 256 c) := (World.cell?_of_block (w := w) (w' := w4) (a := ⟨blk, off + k * 2 + 1, none⟩) (hF.block blk HX.out.1 id)).trans HX.out.2.2.1
      have HSB : Hid (Calls Tryz.prog 19 #[.slice (some ⟨g, 0, none⟩) 256 256, .slice (some ⟨b, o, none⟩) 256 c] w4 fun e w' => e = .returned (.bool true) ∧ Calm w4 w') := Lib.hid (by
        have hr4 : Reads w4 b o x.2 := fun j y hj => (World.cell?_of_block (w := w) (w' := w4) (a := ⟨b, o + j, none⟩) (hF.block b HX.out.2.1 id)).trans (HX.out.2.2.2.1 j y hj)
        have h := same_any w4 (some ⟨g, 0, none⟩) (some ⟨b, o, none⟩) w4.heap.size w4.heap.size 256 c x.2 x.2 (rd_reads (by have h := reads_arr hg; rwa [HX.out.2.2.2.2.2] at h) (Array.getElem?_eq_some_iff.1 hg).1) (rd_reads hr4 (Nat.lt_of_lt_of_le HX.out.2.1 hF.size)) (by have := HX.out.2.2.2.2.1; omega)
        rw [HX.out.2.2.2.2.1, decide_eq_true rfl] at h
        exact h)
      have H4 := Lib.hid hF
      clear hg1 hg hF4 hF HRD HX HK
      go_wp2_with fail
      refine HSB.out.mono ?_
      rintro e w5 ⟨rfl, hC⟩
      have H5 := Lib.hid (H4.out.trans hC.fr (fun _ _ e => e))
      clear hC H4 HSB
      go_wp2_with fail
      go_roundw
      case rel => exact ⟨k + 1, by omega, by go_num, (show Fr _ _ _ from H5.out)⟩
      case measure => simp [intOf]; omega
    · go_wp2_with fail
      go_ret
      exact ⟨rfl, HK.out⟩
end Go.Proofs.YtflapnbpaodhaaaGreatDoor.hd
