/-
  The statements' helpers begun and all, and Check of an empty log: what they tell of what is sure.
-/
import Derived.Test.YtflapnbpaodhaaaGreatDoorMa
import Derived.Test.YtflapnbpaodhaaaGreatDoorDk
namespace Go.Proofs.YtflapnbpaodhaaaGreatDoor.hd
set_option maxRecDepth 100000
open Go.RowKit Go.Maps ds
set_option maxRecDepth 100000

set_option maxHeartbeats 4000000 in
theorem begun_sure (w : World) (hT : cr.Tab w) (N : Nat) (h1 : 9 ≤ N) (h2 : N ≤ 100) :
    Calls Tryz.prog 7 #[.int .i64 (N : Int)] w fun e w' => ∃ pb wb d, e = .returned (.tuple #[.pointer (some ⟨pb, 0, none⟩), .pointer (some ⟨wb, 0, none⟩)]) ∧ BegP w pb wb N 1000 w' d ∧ Sure d ∧ d.img at2 = hdrL 0 [] := by
  have HT := Lib.hid hT
  have HN := Lib.hid (new_good w N (by omega) (by omega))
  have HFU : Hid (∀ w2 (k : Nat), k ≤ 100 → Calls Tryz.prog 26 #[.int .u8 (k : Int)] w2 fun e w' => ∃ g, e = .returned (.slice (some ⟨g, 0, none⟩) 256 256) ∧ w2.heap.size ≤ g ∧ w'.heap[g]? = some (.cells (secC (one (UInt8.ofNat k))) 5 (0, 0)) ∧ Fr (fun _ => False) w2 w') := Lib.hid fun w2 k hk => by
    have h := play.full_one w2 (UInt8.ofNat k)
    rwa [show (((UInt8.ofNat k).toNat : Nat) : Int) = (k : Int) by rw [UInt8.toNat_ofNat_of_lt' (by show k < 256; omega)]] at h
  clear hT
  go_enter Tryz.func7, Tryz.ntmps7
  go_wp2_with fail
  refine HN.out.mono ?_
  rintro e w1 h1'
  obtain ⟨pb, rfl, hD1⟩ := ds.start h1'
  have HF := Lib.hid (format_live hD1 Live.new (HT.out.fr hD1.fr) 2 5 (by omega) (by omega) (by omega) (by omega) (by omega))
  clear h1' hD1 HN
  go_wp2_with fail
  refine HF.out.mono ?_
  rintro e w2 ⟨rfl, d2, hd2, hD2, _⟩
  have HO := Lib.hid (open_live hD2 hd2.live (HT.out.fr hD2.fr) 2 5 (by omega) (by omega) (by omega) (by omega) (by omega) (turn := 0) (by omega) (by show d2.img 2 = _; rw [hd2.img]; rfl))
  have HD2 := Lib.hid (⟨hd2, hD2.fr⟩ : _ ∧ _)
  clear hd2 hD2 HF
  go_wp2_with fail
  refine HO.out.mono ?_
  rintro e w3 ⟨wb, rfl, hs3, hw3, hD3, _⟩
  have H3 := Lib.hid (⟨HD2.out.1.live, isD_big hD3 (by omega) (by omega), hw3, Nat.le_trans HD2.out.2.size hs3, by rw [HD2.out.1.ops]; show 0 ≤ (0 : Int) + 2 ∧ (0 : Int) + 2 ≤ _; omega⟩ : BegP w pb wb N (300 + 4 * 8) w3 d2)
  have HI2 := Lib.hid (show d2.img at2 = hdrL 0 [] by rw [HD2.out.1.img]; rfl)
  clear hs3 hw3 hD3 HO HD2
  go_wp2_with fail
  go_loopw [8] (fun v wr => ∃ k : Nat, 8 ≤ k ∧ k ≤ N ∧ v = .int .i64 k ∧ Hid (∃ d, BegP w pb wb N (300 + 4 * k) wr d ∧ d.img at2 = hdrL 0 [])) (fun v _ => N - (intOf v).toNat)
  case atStart => exact ⟨8, by omega, by omega, rfl, (show ∃ _, _ from ⟨d2, H3.out, HI2.out⟩)⟩
  case round =>
    obtain ⟨k, hk8, hk, rfl, HK⟩ := hrel
    clear H3 HI2
    obtain ⟨d, hB, hI⟩ := HK.out
    have HB := Lib.hid hB
    have HI := Lib.hid hI
    clear hB hI HK
    by_cases hlt : k < N
    · go_wp2_with fail
      refine (HFU.out wr k (by omega)).mono ?_
      rintro e w4 ⟨g, rfl, hg1, hg, hF4⟩
      have HW := Lib.hid ((HB.out.dsk.calm hF4).write (by omega) k (by omega) (by omega) g 0 256 (one (UInt8.ofNat k)) (one_length _) ⟨_, hg⟩ (by decide) (reads_arr hg))
      have H4 := Lib.hid (fr_blk hF4 HB.out.wal)
      clear hg1 hg hF4
      go_wp2_with fail
      refine HW.out.mono ?_
      rintro e w5 ⟨rfl, hD5, hK5⟩
      have H5 := Lib.hid (⟨(HB.out.live.write _ _).1, isD_big hD5 (by omega) (by omega), keep_walO hK5 H4.out, HB.out.lt, by have h := HB.out.ops; rw [(HB.out.live.write _ _).2]; omega⟩ : BegP w pb wb N (300 + 4 * (k + 1)) w5 (d.write k (one (UInt8.ofNat k))))
      have HI5 := Lib.hid (show (d.write k (one (UInt8.ofNat k))).img at2 = hdrL 0 [] by
        have hw : d.write k (one (UInt8.ofNat k)) = ⟨fun x => if x = k then one (UInt8.ofNat k) else d.img x, d.sur, fun x y => d.may x y ∨ (x = k ∧ y = one (UInt8.ofNat k)), d.ops + 1, lessOne d.lim, false, false⟩ := if_neg HB.out.live.not_gone
        rw [hw]
        exact (if_neg (by rw [at2_eq]; omega)).trans HI.out)
      clear hD5 hK5 HW H4 HB
      go_wp2_with fail
      go_roundw
      case rel => exact ⟨k + 1, by omega, by omega, by go_num, (show ∃ _, _ from ⟨_, H5.out, HI5.out⟩)⟩
      case measure => simp [intOf]; omega
    · obtain rfl : k = N := by omega
      have HS := Lib.hid (HB.out.dsk.sync (by omega))
      go_wp2_with fail
      refine HS.out.mono ?_
      rintro e w5 ⟨rfl, hD5, hK5⟩
      have H5 := Lib.hid (⟨HB.out.live.sync.1, isD_big hD5 (by omega) (by omega), keep_walO hK5 HB.out.wal, HB.out.lt, by have h := HB.out.ops; rw [HB.out.live.sync.2.2]; omega⟩ : BegP w pb wb k 1000 w5 d.sync)
      have HC := Lib.hid (show Sure d.sync ∧ d.sync.img at2 = hdrL 0 [] by
        have hs : d.sync = ⟨d.img, d.img, fun x y => y = d.img x, d.ops + 1, lessOne d.lim, false, true⟩ := if_neg HB.out.live.not_gone
        rw [hs]
        exact ⟨fun _ _ h => h, HI.out⟩)
      clear hD5 hK5 HS HB
      go_wp2_with fail
      go_ret2
      exact ⟨pb, wb, _, rfl, H5.out, HC.out⟩

set_option maxHeartbeats 4000000 in
theorem all_dec {w0 : World} {pb N B : Nat} {d : DS} (w : World) (hD : IsD w0 pb N B d w) (hL : d.dk = false) (p : Option Addr) (cap : Nat) (l : List (Int × List UInt8)) (hS : BksT w p l) (hi : ∀ x ∈ l, 0 ≤ x.1 ∧ x.1 < N) (hn : l.length ≤ 1000) :
    Calls Tryz.prog 15 #[.pointer (some ⟨pb, 0, none⟩), .slice p l.length cap] w fun e w' => (∃ b : Bool, e = .returned (.bool b) ∧ (b = true ↔ ∀ x ∈ l, d.img x.1 = x.2)) ∧ Fr (fun _ => False) w w' := by
  obtain ⟨n, hn'⟩ : ∃ n, n = l.length := ⟨_, rfl⟩
  have HLEN := Lib.hid hn'
  have HD := Lib.hid (⟨hD, hL, hS, hi⟩ : _ ∧ _ ∧ _ ∧ _)
  rw [← hn'] at hn ⊢
  clear hn' hD hL hS hi
  go_enter Tryz.func15, Tryz.ntmps15
  go_wp2_with fail
  go_loopw [5] (fun v wr => ∃ k : Nat, k ≤ n ∧ v = .int .i64 k ∧ Hid (Fr (fun _ => False) w wr ∧ ∀ x ∈ l.take k, d.img x.1 = x.2)) (fun v _ => n - (intOf v).toNat)
  case atStart => exact ⟨0, Nat.zero_le _, rfl, (show _ ∧ _ from ⟨Fr.refl _ _, by simp⟩)⟩
  case round =>
    obtain ⟨k, hk, rfl, HK⟩ := hrel
    by_cases hlt : k < n
    · have hkl : k < l.length := by have := HLEN.out; omega
      obtain ⟨x, hx⟩ : ∃ x, l[k]? = some x := ⟨_, List.getElem?_eq_getElem hkl⟩
      obtain ⟨blk, off, rfl, hty, hbk⟩ := HD.out.2.2.1 (by rintro rfl; simp at hx)
      obtain ⟨x0, x1⟩ := HD.out.2.2.2 x (List.mem_of_getElem? hx)
      obtain ⟨c0, b, o, c, t, c1, hlen, ht, hdk, _, hr⟩ := hbk k x hx
      have hF := HK.out.1
      have hlt0 := hty.lt
      have hlt1 := ht.lt
      have C0 : wr.cell? ⟨blk, off + k * 2, none⟩ = some (.int .i64 x.1) := (World.cell?_of_block (w := w) (w' := wr) (a := ⟨blk, off + k * 2, none⟩) (hF.block blk hlt0 id)).trans c0
      have HRD := Lib.hid ((HD.out.1.calm hF).read HD.out.2.1 x.1 x0 x1)
      have HNX : Hid (d.img x.1 = x.2 → ∀ y ∈ l.take (k + 1), d.img y.1 = y.2) := Lib.hid fun e y hy => by
        rw [List.take_add_one, hx] at hy
        rcases List.mem_append.1 hy with hy | hy
        · exact HK.out.2 y hy
        · obtain rfl : y = x := by simpa using hy
          exact e
      have HNO : Hid (d.img x.1 ≠ x.2 → ¬ ∀ y ∈ l, d.img y.1 = y.2) := Lib.hid fun e h => e (h x (List.mem_of_getElem? hx))
      obtain ⟨xl, hxl⟩ : ∃ xl, xl = d.img x.1 := ⟨_, rfl⟩
      obtain ⟨xr, hxr⟩ : ∃ xr, xr = x.2 := ⟨_, rfl⟩
      have hxlen := HD.out.1.len x0 x1
      rw [← hxl] at HRD HNX HNO hxlen
      rw [← hxr] at HNX HNO hlen hr
      obtain ⟨xa, hxa⟩ : ∃ xa, xa = x.1 := ⟨_, rfl⟩
      rw [← hxa] at C0 HRD x0 x1
      have HX := Lib.hid (⟨hlt0, hlt1, c1, hr, hlen, hxlen⟩ : _ ∧ _ ∧ _ ∧ _ ∧ _ ∧ _)
      clear hxa hxl hxr hx hkl hty hbk c0 c1 hlen hxlen ht hdk hr hF hlt0 hlt1
      go_wp2_with fail
      refine HRD.out.mono ?_
      rintro e w4 ⟨g, rfl, hg1, hg, hF4⟩
      have hF := HK.out.1.trans hF4 (fun _ _ e => e)
      have C1 : w4.cell? ⟨blk, off + k * 2 + 1, none⟩ = some (.slice (some ⟨b, o, none⟩) 256 c) := (World.cell?_of_block (w := w) (w' := w4) (a := ⟨blk, off + k * 2 + 1, none⟩) (hF.block blk HX.out.1 id)).trans HX.out.2.2.1
      have HSB : Hid (Calls Tryz.prog 19 #[.slice (some ⟨g, 0, none⟩) 256 256, .slice (some ⟨b, o, none⟩) 256 c] w4 fun e w' => e = .returned (.bool (decide (xl = xr))) ∧ Calm w4 w') := Lib.hid (by
        have hr4 : Reads w4 b o xr := fun j y hj => (World.cell?_of_block (w := w) (w' := w4) (a := ⟨b, o + j, none⟩) (hF.block b HX.out.2.1 id)).trans (HX.out.2.2.2.1 j y hj)
        have h := same_any w4 (some ⟨g, 0, none⟩) (some ⟨b, o, none⟩) w4.heap.size w4.heap.size 256 c xl xr (rd_reads (reads_arr hg) (Array.getElem?_eq_some_iff.1 hg).1) (rd_reads hr4 (Nat.lt_of_lt_of_le HX.out.2.1 hF.size)) (by have := HX.out.2.2.2.2.2; omega)
        rw [HX.out.2.2.2.2.1, HX.out.2.2.2.2.2] at h
        exact h)
      have H4 := Lib.hid hF
      have HKT := Lib.hid HK.out.2
      clear hg1 hg hF4 hF HRD HX HK
      by_cases he : xl = xr
      · rw [decide_eq_true he] at HSB
        have HN := Lib.hid (HNX.out he)
        clear he HNX HNO HKT
        go_wp2_with fail
        refine HSB.out.mono ?_
        rintro e w5 ⟨rfl, hC⟩
        have H5 := Lib.hid (H4.out.trans hC.fr (fun _ _ e => e))
        clear hC H4 HSB
        go_wp2_with fail
        go_roundw
        case rel => exact ⟨k + 1, by omega, by go_num, (show _ ∧ _ from ⟨H5.out, HN.out⟩)⟩
        case measure => simp [intOf]; omega
      · rw [decide_eq_false he] at HSB
        have HN := Lib.hid (HNO.out he)
        clear he HNX HNO HKT
        go_wp2_with fail
        refine HSB.out.mono ?_
        rintro e w5 ⟨rfl, hC⟩
        have H5 := Lib.hid (H4.out.trans hC.fr (fun _ _ e => e))
        clear hC H4 HSB
        go_wp2_with fail
        go_ret
        exact ⟨⟨false, rfl, fun e => (by cases e), fun e => absurd e HN.out⟩, H5.out⟩
    · obtain rfl : k = n := by omega
      go_wp2_with fail
      go_ret
      have h := HK.out
      rw [List.take_of_length_le (by rw [← HLEN.out]; omega)] at h
      exact ⟨⟨true, rfl, fun _ => h.2, fun _ => rfl⟩, h.1⟩

theorem picks_in {w1 wr : World} {pb N B : Nat} {d : DS} {A : Option Addr} {l : List Int} (hr : RdI w1 w1.heap.size A l) (hl : l.length ≤ 140737488351232) (hD : IsD w1 pb N B d wr) : PicksIn w1 wr A l := ⟨hl, fun hne => by
  obtain ⟨blk, off, e, hb, hc⟩ := hr.1 hne
  exact ⟨blk, off, e, hb, fun j x hj => (World.cell?_of_block (w := w1) (w' := wr) (a := ⟨blk, off + j, none⟩) (hD.fr.block blk hb id)).trans (hc j x hj)⟩⟩
theorem picks_none (w1 wr : World) : PicksIn w1 wr none [] := ⟨by simp, fun h => absurd rfl h⟩
theorem can_of {N : Nat} {d : DS} {f : Int → List UInt8} (hN : N ≤ 4096) (h : ∀ s, I64 s → d.may s (f s)) : Can N d f := fun s h0 h1 => h s (by constructor <;> omega)
theorem behind_live (f : Int → List UInt8) (n : Int) : Live (DS.behind f n) := ⟨rfl, rfl⟩
theorem behind_sure (f : Int → List UInt8) (n : Int) : Sure (DS.behind f n) := fun _ _ h => h
theorem sure_limit {d : DS} {n : Int} (h : Sure d) : Sure (d.limit n) := h

set_option maxHeartbeats 4000000 in
theorem check_void (w0 w : World) (pb N B : Nat) (d : DS) (hD : IsD w0 pb N B d w) (hT : cr.Tab w) (at_ rc : Nat) (h1 : 1 ≤ rc) (h2 : rc ≤ 100) (h3 : at_ + rc < N) (h4 : N ≤ 4096) (hk : d.dk = false) {turn : Nat} (ht : turn < 4294967296) (hh : d.img (at_ : Int) = hdrL turn []) :
    Calls Tryz.prog 18 #[.pointer (some ⟨pb, 0, none⟩), .int .i64 (at_ : Int), .int .i64 (rc : Int)] w fun e w' => (∃ p cap, e = .returned (.tuple #[.slice p 0 cap, .int .i64 0])) ∧ Fr (fun _ => False) w w' := by
  obtain ⟨c0, hN, hpb⟩ := hD.cell0
  obtain ⟨_, _, hcn, hrd⟩ := openR_void (N := N) (rc := rc) hk ht hh
  have HRO := Lib.hid (roomOn_ok w pb N at_ rc c0 hpb h1 h2 h3 h4)
  have HD := Lib.hid (⟨hD, hT⟩ : _ ∧ _)
  have HRD : Hid (∀ w2, IsD w0 pb N B d w2 → cr.Tab w2 → Calls Tryz.prog 42 #[.agg #[.pointer (some ⟨pb, 0, none⟩), .int .i64 (at_ : Int), .int .i64 (rc : Int)]] w2 fun e w' => Fr (fun _ => False) w2 w' ∧ ∃ p cap, e = .returned (.tuple #[.int .i64 ((tnOf d at_ : Nat) : Int), .slice p 0 cap, .int .i64 0])) := Lib.hid fun w2 hD2 hT2 => by
    refine (read_any w0 w2 pb N B d hD2 hT2 hk at_ rc h1 h2 h3 h4 (hdOf d at_) rfl).mono ?_
    rintro e w' ⟨hF, ⟨p, cap, rfl, _, _⟩ | ⟨_, hr⟩⟩
    · refine ⟨hF, p, cap, ?_⟩
      rw [show numAt (hdOf d at_) 8 2 = 0 from hcn]
    · exact absurd hrd hr
  obtain ⟨tz, htz⟩ : ∃ tz : Int, tz = ((tnOf d at_ : Nat) : Int) := ⟨_, rfl⟩
  rw [← htz] at HRD
  obtain ⟨i0, hi, hz0, hz1, hz2⟩ := info_parts infoI
  have HI := Lib.hid (⟨hi, hz0, hz1, hz2⟩ : _ ∧ _ ∧ _ ∧ _)
  clear hD hT c0 hN hpb htz hcn hrd hk ht hh hi hz0 hz1 hz2
  unfold roomV at HRO
  go_enter Tryz.func18, Tryz.ntmps18
  go_wp2_with fail
  refine HRO.out.mono ?_
  rintro e w1 ⟨rfl, hF1⟩
  have hFa := hF1.alloc (.cells #[.pointer (some ⟨pb, 0, none⟩), .int .i64 (at_ : Int), .int .i64 (rc : Int)] 72)
  have HD1 := Lib.hid (⟨(HD.out.1.calm hF1).calm ((Fr.refl _ _).alloc (.cells #[.pointer (some ⟨pb, 0, none⟩), .int .i64 (at_ : Int), .int .i64 (rc : Int)] 72)), HD.out.2.fr hFa, hFa, BoxR.mk_ w1 pb at_ rc⟩ : _ ∧ _ ∧ _ ∧ _)
  clear hF1 hFa HD HRO
  go_wp2_with fail
  generalize w1.alloc (.cells #[.pointer (some ⟨pb, 0, none⟩), .int .i64 (at_ : Int), .int .i64 (rc : Int)] 72) = wa at HD1 ⊢
  generalize w1.heap.size = gR at HD1 ⊢
  refine (HRD.out wa HD1.out.1 HD1.out.2.1).mono ?_
  rintro e w2 ⟨hF2, p, cap2, rfl⟩
  have H2 := Lib.hid (HD1.out.2.2.1.trans hF2 (fun _ _ e => e))
  clear hF2 HD1 HRD
  go_wp2_with (at_make; go_loud (refine wpList_make_own _ ?_ (.const (.int .i64 0)) (.tmp 35) 22 ?_ 0 3 i0 (.int .i64 0) 1 Tryz.underlying22 HI.out.1 HI.out.2.1 HI.out.2.2.1 .i64 .i64 _ 0 ?_ ?_ rfl (by simp) (by simp) (Nat.zero_le _) ?_; (exact rfl); (exact rfl); (exact rfl); (exact rfl); intro w3 hown3 hg3; have H3 := Lib.hid (H2.out.grown hg3 (fun k e => by cases e)); clear hown3 hg3))
  go_loopw [12, 39] (fun v12 v wr => v12 = .slice (some ⟨w2.heap.size, 0, none⟩) 0 0 ∧ v = .int .i64 0 ∧ Hid (Fr (fun _ => False) w wr)) (fun _ v _ => 0 - (intOf v).toNat)
  case atStart => exact ⟨rfl, rfl, H3⟩
  case round =>
    obtain ⟨rfl, rfl, HK⟩ := hrel
    go_wp2_with fail
    go_ret2
    exact ⟨⟨_, _, rfl⟩, HK.out⟩
end Go.Proofs.YtflapnbpaodhaaaGreatDoor.hd
