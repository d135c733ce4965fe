/-
  headerOf.
-/
import Derived.Test.YtflapnbpaodhaaaGreatDoorHdB
namespace Go.Proofs.YtflapnbpaodhaaaGreatDoor.hd
set_option maxRecDepth 100000
open Go.RowKit Go.Maps

/-- A header's homes, so far. -/
def hdr1 (h : List UInt8) (l : List (Int × List UInt8)) : Nat → List UInt8
  | 0 => h
  | k + 1 => putL (hdr1 h l k) (10 + k * 2) (l.getD k (0, [])).1.toNat 2
theorem hdr1_length (h : List UInt8) (l : List (Int × List UInt8)) : ∀ k, (hdr1 h l k).length = h.length
  | 0 => rfl
  | k + 1 => by rw [hdr1, putL_length, hdr1_length h l k]
/-- The checksum, so far. -/
def sumD (s : cr.W32) (l : List (Int × List UInt8)) : Nat → cr.W32
  | 0 => s
  | k + 1 => cr.crcMore (sumD s l k) (l.getD k (0, [])).2
def hdr0 (turn n : Nat) : List UInt8 := putL (putL markL 4 turn 4) 8 n 2
def hdrH (turn : Nat) (l : List (Int × List UInt8)) : List UInt8 := hdr1 (hdr0 turn l.length) l l.length
def sumL (turn : Nat) (l : List (Int × List UInt8)) : cr.W32 := sumD (cr.crcMore 0#32 ((hdrH turn l).take 252)) l l.length
/-- The header that logs l. -/
def hdrL (turn : Nat) (l : List (Int × List UInt8)) : List UInt8 := putL (hdrH turn l) 252 (sumL turn l).toNat 4
theorem hdr0_length (turn n : Nat) : (hdr0 turn n).length = 256 := by rw [hdr0, putL_length, putL_length, markL_length]
theorem hdrH_length (turn : Nat) (l : List (Int × List UInt8)) : (hdrH turn l).length = 256 := by rw [hdrH, hdr1_length, hdr0_length]
theorem hdrL_length (turn : Nat) (l : List (Int × List UInt8)) : (hdrL turn l).length = 256 := by rw [hdrL, putL_length, hdrH_length]

/-- The header's variable, and the result's. -/
structure HS (w wr : World) (h : List UInt8) : Prop where
  blk : wr.heap[w.heap.size + 1]? = some (.cells (secC h) 100 (0, 0))
  res : wr.heap[w.heap.size]? = some (.cells (secC noughts) 100 (0, 0))
  fr : Fr (fun _ => False) w wr
theorem HS.calm {w wr w2 : World} {h : List UInt8} (k : HS w wr h) (hF : Fr (fun _ => False) wr w2) : HS w w2 h :=
  ⟨(hF.block _ (Array.getElem?_eq_some_iff.1 k.blk).1 id).trans k.blk, (hF.block _ (Array.getElem?_eq_some_iff.1 k.res).1 id).trans k.res, k.fr.trans hF (fun _ _ e => e)⟩
theorem HS.put {w wr w2 : World} {h h' : List UInt8} (k : HS w wr h) (hF : Fr (· = w.heap.size + 1) wr w2) (hb : w2.heap[w.heap.size + 1]? = some (.cells (secC h') 100 (0, 0))) : HS w w2 h' :=
  ⟨hb, (hF.block _ (Array.getElem?_eq_some_iff.1 k.res).1 (by omega)).trans k.res, fr_go k.fr hF (fun i e => by omega)⟩
theorem HS.rd {w wr : World} {h : List UInt8} (k : HS w wr h) (n : Nat) : Rd wr (w.heap.size + 2) (some ⟨w.heap.size + 1, 0, none⟩) (h.take n) := fun _ => by
  by_cases hne : h = []
  · subst hne
    exact ⟨w.heap.size + 1, 0, rfl, by omega, fun j x hj => by simp at hj⟩
  · obtain ⟨b, o, e, hb, hc⟩ := rd_block k.blk (B := w.heap.size + 2) (by omega) hne
    exact ⟨b, o, e, hb, fun j x hj => hc j x (by
      rw [List.getElem?_take] at hj
      split at hj
      · exact hj
      · cases hj)⟩

theorem goes4 {n : Nat} (h : n < 4294967296) : goesB (n : Int) 4 = true := by
  unfold goesB
  rw [beq_iff_eq]
  omega
theorem goes2 {n : Nat} (h : n < 65536) : goesB (n : Int) 2 = true := by
  unfold goesB
  rw [beq_iff_eq]
  omega

theorem run_sliceArrTo (g : Nat) (w : World) : (Instr.sliceAt 100 (.pointer (some ⟨g, 0, none⟩)) none (some (.int .i64 252)) none).run Tryz.prog w = .ok (.slice (some ⟨g, 0, none⟩) 252 256) w := by
  kernel_rfl
theorem wpList_sliceArrTo {ops : Array Oper} {rest : List Oper} {o : Oper} {a : Act} {w : World} {Q : Exit → Act → World → Prop} (hgd : o.guard = none) (x : Operand) (ho : o.op = .slice 100 x none (some (.const (.int .i64 252))) none) (g : Nat) (hx : a.eval x = .pointer (some ⟨g, 0, none⟩))
    (h : wpList Tryz.prog ops Q rest (a.put o.dst (.slice (some ⟨g, 0, none⟩) 252 256)) w) : wpList Tryz.prog ops Q (o :: rest) a w := by
  refine wpList_plain hgd fun K hK => ?_
  have hc : a.eval (.const (.int .i64 252)) = .int .i64 252 := rfl
  unfold Oper.wp
  simp only [execOp, ho, hx, Option.map_none, Option.map_some, hc, Sem.run_bind, run_sliceArrTo, Result.andThen]
  exact hK _ _ h

set_option maxHeartbeats 4000000 in
theorem headerOf_any (w : World) (hT : cr.Tab w) (turn : Nat) (ht : turn < 4294967296) (p : Option Addr) (cap : Nat) (l : List (Int × List UInt8)) (hB : Bks w w.heap.size p l) (hn : l.length ≤ 100) (hh : ∀ x ∈ l, 0 ≤ x.1 ∧ x.1 < 65536) (hd : ∀ x ∈ l, x.2.length ≤ 1000000) :
    Calls Tryz.prog 62 #[.int .i64 (turn : Int), .slice p l.length cap] w fun e w' => e = .returned (secV (hdrL turn l)) ∧ Fr (fun _ => False) w w' := by
  obtain ⟨n, hn'⟩ : ∃ n, n = l.length := ⟨_, rfl⟩
  have HB := Lib.hid hB
  have HT := Lib.hid hT
  have HT4 := Lib.hid (goes4 ht)
  have HN2 := Lib.hid (goes2 (n := n) (by omega))
  have HH := Lib.hid hh
  have HD := Lib.hid hd
  have HLEN := Lib.hid hn'
  have H0 := Lib.hid (show HS w ((w.alloc (.cells (secC noughts) 100)).alloc (.cells (secC noughts) 100)) noughts from ⟨heap_alloc2_new _ _ _, heap_alloc2_old _ _ _, ((Fr.refl _ w).alloc _).alloc _⟩)
  have HE : Hid (hdrL turn l = putL (hdr1 (hdr0 turn n) l n) 252 (sumD (cr.crcMore 0#32 ((hdr1 (hdr0 turn n) l n).take 252)) l n).toNat 4) := by
    show _ = _
    rw [hn']
    rfl
  have hn100 : n ≤ 100 := by omega
  rw [← hn']
  clear hB hT ht hn hh hd hn'
  go_enter Tryz.func62, Tryz.ntmps62
  go_wp2_with (first
    | ((with_reducible refine wpList_allocArr ?_ ?_ ?_); (exact rfl); (exact rfl))
    | ((with_reducible refine wpList_sliceArr ?_ (.tmp 5) ?_ _ ?_ ?_); (exact rfl); (exact rfl); (exact rfl))
    | ((with_reducible refine wpList_copyMark ?_ (.tmp 11) ?_ (w.heap.size + 1) ?_ H0.out.blk ?_); (exact rfl); (exact rfl); (exact rfl); intro w3 h3 hF3 hs3; have H3 := Lib.hid (H0.out.put hF3 h3); clear h3 hF3 hs3)
    | ((with_reducible refine wpList_loadArr ?_ (.tmp 5) ?_ (w.heap.size + 1) markL markL_length ?_ H3.out.blk ?_); (exact rfl); (exact rfl); (exact rfl)))
  refine (with_ok w3 markL markL_length 4 4 turn (by omega) (by omega) (by omega) HT4.out).mono ?_
  rintro e w4 ⟨rfl, hF4⟩
  have H4 := Lib.hid (H3.out.calm hF4)
  clear hF4
  go_wp2_with fail
  refine (with_ok w4 _ (by rw [putL_length, markL_length]) 8 2 n (by omega) (by omega) (by omega) HN2.out).mono ?_
  rintro e w5 ⟨rfl, hF5⟩
  have H5 := Lib.hid (H4.out.calm hF5)
  clear hF5
  rw [show putL (putL markL 4 turn 4) 8 n 2 = hdr0 turn n from rfl]
  go_wp2_with ((with_reducible refine wpList_storeArr ?_ (.tmp 5) (.tmp 18) ?_ (w.heap.size + 1) (hdr0 turn n) markL (hdr0_length turn n) markL_length ?_ ?_ H5.out.blk ?_); (exact rfl); (exact rfl); (exact rfl); (exact rfl); intro w6 h6 hF6 hs6; have H6 := Lib.hid (H5.out.put hF6 h6); clear h6 hF6 hs6)
  go_loopw [21] (fun v wr => ∃ k : Nat, k ≤ n ∧ v = .int .i64 k ∧ Hid (HS w wr (hdr1 (hdr0 turn n) l k))) (fun v _ => n - (intOf v).toNat)
  case atStart => exact ⟨0, Nat.zero_le _, rfl, H6⟩
  case round =>
    obtain ⟨k, hk, rfl, HR⟩ := hrel
    by_cases hlt : k < n
    · obtain ⟨x, hx⟩ : ∃ x, l[k]? = some x := ⟨_, List.getElem?_eq_getElem (by have := HLEN.out; omega)⟩
      obtain ⟨blk, off, rfl, hb, hc⟩ := HB.out (by rintro rfl; simp at hx)
      obtain ⟨c0, A, c, c1, _⟩ := (hc k x hx).kept HR.out.fr (Nat.le_refl _) hb
      have hxm := List.mem_of_getElem? hx
      obtain ⟨q0, q1⟩ := HH.out x hxm
      obtain ⟨hm, hhm⟩ : ∃ hm : Nat, x.1 = hm := ⟨x.1.toNat, by omega⟩
      rw [hhm] at c0
      have HG := Lib.hid (goes2 (n := hm) (by omega))
      have HST := Lib.hid (show hdr1 (hdr0 turn n) l (k + 1) = putL (hdr1 (hdr0 turn n) l k) (10 + k * 2) hm 2 by
        rw [hdr1, List.getD_eq_getElem?_getD, hx]
        show putL _ _ x.1.toNat 2 = _
        rw [show x.1.toNat = hm by omega])
      have HL := Lib.hid (show (hdr1 (hdr0 turn n) l k).length = 256 by rw [hdr1_length, hdr0_length])
      have HX := Lib.hid (HR.out.calm ((Fr.refl _ wr).alloc (.cells #[.int .i64 (hm : Int), .slice A x.2.length c] 38)))
      clear hb hc hx hxm q0 q1 hhm
      go_wp2_with ((with_reducible refine wpList_loadArr ?_ (.tmp 5) ?_ (w.heap.size + 1) (hdr1 (hdr0 turn n) l k) HL.out ?_ HX.out.blk ?_); (exact rfl); (exact rfl); (exact rfl))
      refine (with_ok _ (hdr1 (hdr0 turn n) l k) HL.out (10 + k * 2) 2 hm (by omega) (by omega) (by omega) HG.out).mono ?_
      rintro e w4 ⟨rfl, hF4⟩
      have HY := Lib.hid (HX.out.calm hF4)
      have HL2 := Lib.hid (show (hdr1 (hdr0 turn n) l (k + 1)).length = 256 by rw [hdr1_length, hdr0_length])
      clear hF4
      rw [← HST.out]
      go_wp2_with ((with_reducible refine wpList_storeArr ?_ (.tmp 5) (.tmp 32) ?_ (w.heap.size + 1) (hdr1 (hdr0 turn n) l (k + 1)) (hdr1 (hdr0 turn n) l k) HL2.out HL.out ?_ ?_ HY.out.blk ?_); (exact rfl); (exact rfl); (exact rfl); (exact rfl); intro w6 h6 hF6 hs6; have HZ := Lib.hid (HY.out.put hF6 h6); clear h6 hF6 hs6)
      go_roundw
      case rel => exact ⟨k + 1, by omega, by go_num, HZ⟩
      case measure => simp [intOf]; omega
    · obtain rfl : k = n := by omega
      have HLH := Lib.hid (show (hdr1 (hdr0 turn k) l k).length = 256 by rw [hdr1_length, hdr0_length])
      obtain ⟨H, hH⟩ : ∃ H, H = hdr1 (hdr0 turn k) l k := ⟨_, rfl⟩
      rw [← hH] at HR HE HLH
      have HTW := Lib.hid (HT.out.fr HR.out.fr)
      have HSUM := Lib.hid (cr.sum_rd (n := 252) (cap := 256) HTW.out (HR.out.rd 252) (by rw [List.length_take, HLH.out]; omega) (by omega))
      obtain ⟨s0, hs0⟩ : ∃ s0, s0 = cr.crcMore 0#32 (H.take 252) := ⟨_, rfl⟩
      rw [← hs0] at HSUM HE
      clear hs0 hH hlt
      go_wp2_with ((with_reducible refine wpList_sliceArrTo ?_ (.tmp 5) ?_ _ ?_ ?_); (exact rfl); (exact rfl); (exact rfl))
      refine HSUM.out.mono ?_
      rintro e w7 ⟨rfl, rfl⟩
      go_wp2_with fail
      go_loopw [8, 38] (fun a8 v wr => ∃ j : Nat, j ≤ k ∧ v = .int .i64 j ∧ a8 = .int .u32 (cr.uv (sumD s0 l j)) ∧ Hid (HS w wr H)) (fun _ v _ => k - (intOf v).toNat)
      case atStart => exact ⟨0, Nat.zero_le _, rfl, rfl, HR⟩
      case round =>
        obtain ⟨j, hj, rfl, rfl, HR2⟩ := hrel
        by_cases hlt : j < k
        · obtain ⟨x, hx⟩ : ∃ x, l[j]? = some x := ⟨_, List.getElem?_eq_getElem (by have := HLEN.out; omega)⟩
          obtain ⟨blk, off, rfl, hb, hc⟩ := HB.out (by rintro rfl; simp at hx)
          obtain ⟨c0, A, c, c1, hrd⟩ := (hc j x hx).kept HR2.out.fr (Nat.le_refl _) hb
          have hxm := List.mem_of_getElem? hx
          have hxd := HD.out x hxm
          have HST := Lib.hid (show cr.uv (sumD s0 l (j + 1)) = cr.uv (cr.crcMore (sumD s0 l j) x.2) by
            rw [sumD, List.getD_eq_getElem?_getD, hx]
            rfl)
          have hF := (Fr.refl (fun _ => False) wr).alloc (.cells #[.int .i64 x.1, .slice A x.2.length c] 38)
          have HX := Lib.hid (HR2.out.calm hF)
          have HM := Lib.hid (cr.more_any _ (HT.out.fr HX.out.fr) (sumD s0 l j) A c w.heap.size x.2 (hrd.still hF HR2.out.fr.size) (by omega))
          clear hb hc hx hxm hxd hrd hF
          go_wp2_with fail
          refine HM.out.mono ?_
          rintro e w8 ⟨rfl, rfl⟩
          go_wp2_with fail
          go_roundw
          case rel => exact ⟨j + 1, by omega, by go_num, by rw [HST.out], HX⟩
          case measure => simp [intOf]; omega
        · obtain rfl : j = k := by omega
          obtain ⟨sn, hsn⟩ : ∃ sn : Nat, sn = (sumD s0 l j).toNat := ⟨_, rfl⟩
          have hlo : sn < 4294967296 := by rw [hsn]; exact (sumD s0 l j).isLt
          have hu : cr.uv (sumD s0 l j) = (sn : Int) := by rw [hsn]; rfl
          rw [← hsn] at HE
          have HG := Lib.hid (goes4 hlo)
          rw [hu]
          clear hu hsn
          have hlo' : (sn : Int) < 4294967296 := by omega
          go_wp2_with ((with_reducible refine wpList_loadArr ?_ (.tmp 5) ?_ (w.heap.size + 1) H HLH.out ?_ HR2.out.blk ?_); (exact rfl); (exact rfl); (exact rfl))
          refine (with_ok _ H HLH.out 252 4 sn (by omega) (by omega) (by omega) HG.out).mono ?_
          rintro e w9 ⟨rfl, hF9⟩
          have H9 := Lib.hid (HR2.out.calm hF9)
          have HL9 := Lib.hid (show (hdrL turn l).length = 256 from hdrL_length _ _)
          clear hF9
          rw [← HE.out]
          go_wp2_with ((with_reducible refine wpList_storeArr ?_ (.tmp 4) (.tmp 50) ?_ w.heap.size (hdrL turn l) noughts HL9.out noughts_length ?_ ?_ H9.out.res ?_); (exact rfl); (exact rfl); (exact rfl); (exact rfl); intro w10 h10 hF10 hs10; have H10 := Lib.hid h10; have HF10 := Lib.hid (fr_go H9.out.fr hF10 (fun i e => by omega)); clear h10 hF10 hs10)
          go_frame
          exact bodyPost_ret (v := secV (hdrL turn l)) (results_arr rfl _ _ w.heap.size (hdrL turn l) HL9.out rfl H10.out) rfl ⟨rfl, HF10.out⟩
end Go.Proofs.YtflapnbpaodhaaaGreatDoor.hd
