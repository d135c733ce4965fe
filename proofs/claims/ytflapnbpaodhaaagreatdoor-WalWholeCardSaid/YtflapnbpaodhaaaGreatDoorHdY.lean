/-
  ahead: the sectors as they stand in the log's data.
-/
import Derived.Test.YtflapnbpaodhaaaGreatDoorHdV
import Derived.Deep.AppendLies
namespace Go.Proofs.YtflapnbpaodhaaaGreatDoor.hd
set_option maxRecDepth 100000
open Go.RowKit Go.Maps ds
set_option maxRecDepth 100000

def aheadF (a : Nat) : List (Int × List UInt8) → List (Int × List UInt8)
  | [] => []
  | x :: r => ((a : Int), x.2) :: aheadF (a + 1) r
theorem aheadF_append (m : List (Int × List UInt8)) : ∀ (l : List (Int × List UInt8)) (a : Nat), aheadF a (l ++ m) = aheadF a l ++ aheadF (a + l.length) m
  | [], a => rfl
  | x :: r, a => by
    simp only [List.cons_append, aheadF, aheadF_append m r (a + 1), List.length_cons]
    rw [show a + 1 + r.length = a + (r.length + 1) by omega]
theorem aheadF_length : ∀ (l : List (Int × List UInt8)) (a : Nat), (aheadF a l).length = l.length
  | [], a => rfl
  | x :: r, a => by simp only [aheadF, List.length_cons, aheadF_length r (a + 1)]
theorem aheadF_take (l : List (Int × List UInt8)) (a k : Nat) {x : Int × List UInt8} (hx : l[k]? = some x) : aheadF a (l.take (k + 1)) = aheadF a (l.take k) ++ [(((a + k : Nat) : Int), x.2)] := by
  have hk := (List.getElem?_eq_some_iff.1 hx).1
  rw [List.take_succ_eq_append_getElem hk, aheadF_append, List.length_take, Nat.min_eq_left (by omega)]
  rw [List.getElem?_eq_getElem hk] at hx
  cases hx
  rfl

/-- The list so far. -/
def AhR (wr : World) (base : Nat) (v : Value) (l : List (Int × List UInt8)) : Prop := ∃ L, BRow wr base v L ∧ L.map (fun x => (x.1, x.2.2)) = l
theorem AhR.calm {wr w2 : World} {base : Nat} {v : Value} {l : List (Int × List UInt8)} (r : AhR wr base v l) (hF : Fr (fun _ => False) wr w2) : AhR w2 base v l := by
  obtain ⟨L, hL, hm⟩ := r
  exact ⟨L, hL.calm hF, hm⟩
theorem AhR.bks {wr : World} {base : Nat} {p : Option Addr} {n cap : Nat} {l : List (Int × List UInt8)} (r : AhR wr base (.slice p n cap) l) : n = l.length ∧ BksT wr p l := by
  obtain ⟨L, hL, hm⟩ := r
  have h := hL.bks
  rw [hm] at h
  exact ⟨by rw [h.1, ← hm, List.length_map], h.2⟩
theorem AhR.own {wr : World} {base : Nat} {p : Option Addr} {n cap : Nat} {l : List (Int × List UInt8)} (r : AhR wr base (.slice p n cap) l) : ∃ L, BRow wr base (.slice p n cap) L ∧ L.map (fun x => (x.1, x.2.2)) = l ∧ L.length = n ∧ wr.ownsRow base 38 2 (.slice p n cap) n (bcs L) := by
  obtain ⟨L, hL, hm⟩ := r
  have h := hL.bks.1
  have ho := hL.own
  rw [← h] at ho
  exact ⟨L, hL, hm, h.symm, ho⟩
/-- One more. -/
theorem AhR.snoc {wr w2 : World} {base : Nat} {p : Option Addr} {n cap : Nat} {l : List (Int × List UInt8)} {L : List (Int × Value × List UInt8)} {x : Int} {dv : Value} {dl : List UInt8} {v' : Value} (hL : BRow wr base (.slice p n cap) L) (hm : L.map (fun x => (x.1, x.2.2)) = l) (hn : L.length = n) (hd : DatT wr dv dl)
    (ho : w2.ownsRow base 38 2 v' (n + 1) (bcs L ++ [.int .i64 x, dv])) (hg : wr.grownBy w2 (Value.slice p n cap).ownBlock) : AhR w2 base v' (l ++ [(x, dl)]) := by
  refine ⟨L ++ [(x, dv, dl)], hL.snoc (x := (x, dv, dl)) hd (by rw [hn]; exact ho) hg, ?_⟩
  rw [List.map_append, hm]
  rfl

theorem box_grown {wa w1 : World} {g pb at_ rc : Nat} (hb : BoxR wa g pb at_ rc) {row : Option Nat} (hg : wa.grownBy w1 row) (hr : ∀ j, row = some j → g < j) : BoxR w1 g pb at_ rc :=
  (hg.block _ (Array.getElem?_eq_some_iff.1 hb).1 (fun e => by have := hr _ e.symm; omega)).trans hb
theorem ahHeld {w w' : World} {gx gr pb at_ rc : Nat} {x : Int} {v : Value} (h : St w w' [(gx, .cells #[.int .i64 x, v] 38 (0, 0)), (gr, roomO pb at_ rc)]) :
    w'.cell? ⟨gr, 0, none⟩ = some (.pointer (some ⟨pb, 0, none⟩)) ∧ w'.cell? ⟨gr, 1, none⟩ = some (.int .i64 (at_ : Int)) ∧ w'.cell? ⟨gr, 2, none⟩ = some (.int .i64 (rc : Int)) ∧ w'.cell? ⟨gx, 1, none⟩ = some v := by
  obtain ⟨a, b, c⟩ := BoxR.c (h.get (List.Mem.tail _ (List.Mem.head _)) : BoxR w' gr pb at_ rc)
  exact ⟨a, b, c, by rw [cellAt (h.get (List.Mem.head _))]; rfl⟩
theorem ahNext {w w7 w9 : World} {gx pb at_ rc k : Nat} {q : Option Addr} {qc : Nat} {x : Int × List UInt8} {v v' : Value} {l : List (Int × List UInt8)} {L7 : List (Int × Value × List UInt8)}
    (hL : BRow w7 (w.heap.size + 1) (.slice q k qc) L7) (hm : L7.map (fun x => (x.1, x.2.2)) = aheadF (at_ + 1) (l.take k)) (hn : L7.length = k) (hd : DatT w7 v x.2)
    (hS : St w w7 [(gx, .cells #[.int .i64 x.1, v] 38 (0, 0)), (w.heap.size, roomO pb at_ rc)]) (ht : aheadF (at_ + 1) (l.take (k + 1)) = aheadF (at_ + 1) (l.take k) ++ [(((at_ + 1 + k : Nat) : Int), x.2)]) (hsz : w.heap.size + 1 ≤ w7.heap.size)
    (hown : w9.ownsRow (w.heap.size + 1) 38 2 v' (k + 1) (bcs L7 ++ [.int .i64 ((at_ : Int) + 1 + k), v])) (hg : (w7.alloc (.cells #[.int .i64 ((at_ : Int) + 1 + k), v] 38)).grownBy w9 (Value.slice q k qc).ownBlock)
    (hr : ∀ j, (Value.slice q k qc).ownBlock = some j → w.heap.size + 1 ≤ j ∧ j < gx) :
    AhR w9 (w.heap.size + 1) v' (aheadF (at_ + 1) (l.take (k + 1))) ∧ St w w9 [(gx, .cells #[.int .i64 x.1, v] 38 (0, 0)), (w.heap.size, roomO pb at_ rc)] ∧ w.heap.size + 1 ≤ w9.heap.size := by
  have hFa : Fr (fun _ => False) w7 (w7.alloc (.cells #[.int .i64 ((at_ : Int) + 1 + k), v] 38)) := (Fr.refl _ w7).alloc _
  have hS2 := hS.calm hFa
  refine ⟨?_, ⟨hS2.fr.grown hg (fun j e => Or.inr (by have := hr j e; omega)), fun y hy => ?_⟩, Nat.le_trans hsz (Nat.le_trans hFa.size hg.size)⟩
  · rw [ht, show ((at_ + 1 + k : Nat) : Int) = (at_ : Int) + 1 + k by omega]
    exact AhR.snoc (hL.calm hFa) hm hn (hd.keep (Keep.of_fr hFa)) hown hg
  · have hb := hS2.has y hy
    refine (hg.block _ (Array.getElem?_eq_some_iff.1 hb).1 (fun e => ?_)).trans hb
    have h1 := hr _ e.symm
    rcases List.mem_cons.1 hy with rfl | hy
    · simp at h1
    · obtain rfl : y = (w.heap.size, roomO pb at_ rc) := by simpa using hy
      simp at h1
      omega
set_option maxHeartbeats 4000000 in
theorem ahead_any (w : World) (pb at_ rc : Nat) (h1 : at_ ≤ 100000) (p : Option Addr) (cap : Nat) (l : List (Int × List UInt8)) (hB : BksT w p l) (hn : l.length ≤ 1000) :
    Calls Tryz.prog 54 #[roomV pb at_ rc, .slice p l.length cap] w fun e w' => ∃ p' cap', e = .returned (.slice p' l.length cap') ∧ BksT w' p' (aheadF (at_ + 1) l) ∧ Fr (fun _ => False) w w' := by
  obtain ⟨i0, hi, hz0, hz1, hz2⟩ := info_parts infoBlk
  have HI := Lib.hid (⟨hi, hz0, hz1, hz2⟩ : _ ∧ _ ∧ _ ∧ _)
  have hF := (Fr.refl (fun _ => False) w).alloc (.cells #[.pointer (some ⟨pb, 0, none⟩), .int .i64 (at_ : Int), .int .i64 (rc : Int)] 72)
  obtain ⟨n, hn'⟩ : ∃ n, n = l.length := ⟨_, rfl⟩
  rw [← hn'] at hn ⊢
  have HB := Lib.hid hB
  have HLEN := Lib.hid hn'
  have H0 : Hid (BoxR (w.alloc (.cells #[.pointer (some ⟨pb, 0, none⟩), .int .i64 (at_ : Int), .int .i64 (rc : Int)] 72)) w.heap.size pb at_ rc ∧ Fr (fun _ => False) w (w.alloc (.cells #[.pointer (some ⟨pb, 0, none⟩), .int .i64 (at_ : Int), .int .i64 (rc : Int)] 72)) ∧ w.heap.size + 1 ≤ (w.alloc (.cells #[.pointer (some ⟨pb, 0, none⟩), .int .i64 (at_ : Int), .int .i64 (rc : Int)] 72)).heap.size) := Lib.hid ⟨BoxR.mk_ w pb at_ rc, hF, by simp⟩
  have HDA : Hid (∀ w2, Calls Tryz.prog 65 #[.agg #[.pointer (some ⟨pb, 0, none⟩), .int .i64 (at_ : Int), .int .i64 (rc : Int)]] w2 fun e w' => e = .returned (.int .i64 ((at_ : Int) + 1)) ∧ Fr (fun _ => False) w2 w') := Lib.hid fun w2 => data_any w2 pb at_ rc h1
  have HML := Lib.hid (show i0.bytes * n ≤ 281474976710656 ∧ n ≤ maxLen by rw [hz2]; unfold maxLen; omega)
  clear hi hz0 hz1 hz2 hF hB hn'
  unfold roomV
  go_enter Tryz.func54, Tryz.ntmps54
  go_wp2_with (at_make; go_loud (refine wpList_make_own _ ?_ (.const (.int .i64 0)) (.tmp 9) 30 ?_ (w.heap.size + 1) 38 i0 (.agg #[.int .i64 0, .slice none 0 0]) 2 Tryz.underlying30 HI.out.1 HI.out.2.1 HI.out.2.2.1 .i64 .i64 _ n ?_ ?_ rfl HML.out.1 HML.out.2 H0.out.2.2 ?_; (exact rfl); (exact rfl); (exact rfl); (exact rfl); intro w1 hown1 hg1; rw [World.size_alloc] at hown1; have H1 : Hid (AhR w1 (w.heap.size + 1) (.slice (some ⟨w.heap.size + 1, 0, none⟩) 0 n) (aheadF (at_ + 1) (l.take 0)) ∧ BoxR w1 w.heap.size pb at_ rc ∧ Fr (fun _ => False) w w1 ∧ w.heap.size + 1 ≤ w1.heap.size) := (Lib.hid ⟨⟨[], ⟨hown1, fun x hx => by cases hx⟩, rfl⟩, box_grown H0.out.1 hg1 (fun k e => by cases e), H0.out.2.1.grown hg1 (fun k e => by cases e), Nat.le_trans H0.out.2.2 hg1.size⟩); clear hown1 hg1 H0))
  go_loopw [5, 13] (fun v5 v wr => ∃ k : Nat, k ≤ n ∧ v = .int .i64 k ∧ (∃ p cap, v5 = .slice p k cap) ∧ Hid (AhR wr (w.heap.size + 1) v5 (aheadF (at_ + 1) (l.take k)) ∧ BoxR wr w.heap.size pb at_ rc ∧ Fr (fun _ => False) w wr ∧ w.heap.size + 1 ≤ wr.heap.size)) (fun _ v _ => n - (intOf v).toNat)
  case atStart => exact ⟨0, Nat.zero_le _, rfl, ⟨_, _, rfl⟩, H1⟩
  case round =>
    obtain ⟨k, hk, rfl, ⟨q, qc, rfl⟩, HR⟩ := hrel
    by_cases hlt : k < n
    · have hkl : k < l.length := by have := HLEN.out; omega
      obtain ⟨x, hx⟩ : ∃ x, l[k]? = some x := ⟨_, List.getElem?_eq_getElem hkl⟩
      obtain ⟨blk, off, rfl, hb, hc⟩ := (HB.out.keep (Keep.of_fr HR.out.2.2.1)) (by rintro rfl; simp at hx)
      obtain ⟨q0, b, o, c, t, q1, hl, ht, hd, hdb, hr⟩ := hc k x hx
      have HDT := Lib.hid (show DatT wr (.slice (some ⟨b, o, none⟩) 256 c) x.2 from ⟨b, o, c, t, rfl, hl, ht, hd, hdb, hr⟩)
      have HTK := Lib.hid (aheadF_take l (at_ + 1) k hx)
      clear hx hkl hl ht hd hr hb hc
      go_wp2_with fail
      have hFx := (Fr.refl (fun _ => False) wr).alloc (.cells #[.int .i64 x.1, .slice (some ⟨b, o, none⟩) 256 c] 38)
      have HX : Hid (AhR (wr.alloc (.cells #[.int .i64 x.1, .slice (some ⟨b, o, none⟩) 256 c] 38)) (w.heap.size + 1) (.slice q k qc) (aheadF (at_ + 1) (l.take k)) ∧ St w (wr.alloc (.cells #[.int .i64 x.1, .slice (some ⟨b, o, none⟩) 256 c] 38)) [(wr.heap.size, .cells #[.int .i64 x.1, .slice (some ⟨b, o, none⟩) 256 c] 38 (0, 0)), (w.heap.size, roomO pb at_ rc)] ∧ DatT (wr.alloc (.cells #[.int .i64 x.1, .slice (some ⟨b, o, none⟩) 256 c] 38)) (.slice (some ⟨b, o, none⟩) 256 c) x.2) :=
        Lib.hid ⟨HR.out.1.calm hFx, St.alloc (St.add ⟨HR.out.2.2.1, fun _ h => by cases h⟩ HR.out.2.1) _ _, HDT.out.keep (Keep.of_fr hFx)⟩
      have hsx := Nat.le_trans HR.out.2.2.2 hFx.size
      have hgk := HR.out.2.2.2
      have hrq : ∀ j, (Value.slice q k qc).ownBlock = some j → w.heap.size + 1 ≤ j ∧ j < wr.heap.size := fun j hj => by
        obtain ⟨L, hL, _⟩ := HR.out.1
        exact ⟨(hL.row j hj).1, (hL.row j hj).2.lt⟩
      clear hFx HR HDT
      generalize wr.heap.size = gx at HX hgk hrq ⊢
      generalize wr.alloc (.cells #[.int .i64 x.1, .slice (some ⟨b, o, none⟩) 256 c] 38) = wx at HX hsx ⊢
      have hk0 : (0 : Int) ≤ k := by omega
      have hkb : (k : Int) < 1000 := by omega
      have HW1 : IntKind.i64.wrap ((at_ : Int) + 1 + k) = (at_ : Int) + 1 + k := IntWalk.i64_in _ ⟨by omega, by omega⟩
      go_region_held3 (fun w' => w'.cell? ⟨w.heap.size, 0, none⟩ = some (.pointer (some ⟨pb, 0, none⟩)) ∧ w'.cell? ⟨w.heap.size, 1, none⟩ = some (.int .i64 (at_ : Int)) ∧ w'.cell? ⟨w.heap.size, 2, none⟩ = some (.int .i64 (rc : Int)) ∧ w'.cell? ⟨gx, 1, none⟩ = some (.slice (some ⟨b, o, none⟩) 256 c))
        (first
          | exact ahHeld (HX.out.2.1.calm (Fr.refl _ _).drew)
          | exact ahHeld H7.out.2.1
          | exact ahHeld (H7.out.2.1.calm ((Fr.refl _ _).alloc _))
          | exact ahHeld H9.out.2.1)
        (first
          | (go_at_call 65; (refine (HDA.out _).mono ?_); rintro e w7 ⟨rfl, hF7⟩; have H7 : Hid (AhR w7 (w.heap.size + 1) (.slice q k qc) (aheadF (at_ + 1) (l.take k)) ∧ St w w7 _ ∧ DatT w7 (.slice (some ⟨b, o, none⟩) 256 c) x.2 ∧ w.heap.size + 1 ≤ w7.heap.size) := Lib.hid ⟨(HX.out.1.calm (Fr.refl _ _).drew).calm hF7, (HX.out.2.1.calm (Fr.refl _ _).drew).calm hF7, (HX.out.2.2.keep (Keep.of_fr (Fr.refl _ _).drew)).keep (Keep.of_fr hF7), Nat.le_trans hsx hF7.size⟩; obtain ⟨L7, hL7, hm7, hn7, ho7⟩ := H7.out.1.own; have HL7 := Lib.hid (⟨hL7, hm7, hn7, ho7⟩ : _ ∧ _ ∧ _ ∧ _); clear hF7 hL7 hm7 hn7 ho7)
          | (refine step_append_lies _ rfl (.tmp 18) (.tmp 26) 30 rfl (w.heap.size + 1) 38 i0 (.agg #[.int .i64 0, .slice none 0 0]) 2 32 Tryz.underlying30 HI.out.1 HI.out.2.1 HI.out.2.2.1 HI.out.2.2.2 rfl (by omega) _ k (bcs L7) rfl (HL7.out.2.2.2.alloc _) ⟨w7.heap.size, 0, none⟩ 1 1 [.int .i64 ((at_ : Int) + 1 + k), .slice (some ⟨b, o, none⟩) 256 c] rfl rfl (pair_cells _ _ _) (by intro u hu; simp at hu; rcases hu with rfl | rfl <;> rfl) (by omega) (by unfold maxLen; omega) (by omega) (by have := H7.out.2.2.2; simp; omega) _ rfl ?_; intro g9 cap9 w9 hown hgrow hat hlt; have H9 : Hid (AhR w9 (w.heap.size + 1) (.slice (some ⟨g9, 0, none⟩) (k + 1) cap9) (aheadF (at_ + 1) (l.take (k + 1))) ∧ St w w9 [(gx, .cells #[.int .i64 x.1, .slice (some ⟨b, o, none⟩) 256 c] 38 (0, 0)), (w.heap.size, roomO pb at_ rc)] ∧ w.heap.size + 1 ≤ w9.heap.size) := (Lib.hid (ahNext HL7.out.1 HL7.out.2.1 HL7.out.2.2.1 H7.out.2.2.1 H7.out.2.1 HTK.out H7.out.2.2.2 hown hgrow hrq)); clear hown hgrow hat hlt))
      all_goals
        go_wp2_with fail
        go_roundw
        case rel => exact ⟨k + 1, by omega, by go_num, ⟨_, _, rfl⟩, H9.out.1, (BoxR.keep (H9.out.2.1.get (List.Mem.tail _ (List.Mem.head _))) (Keep.refl _)), H9.out.2.1.fr, H9.out.2.2⟩
        case measure => simp [intOf]; omega
    · obtain rfl : k = n := by omega
      go_wp2_with fail
      go_ret
      have h := HR.out.1.bks
      rw [List.take_of_length_le (by rw [← HLEN.out]; omega)] at h
      exact ⟨_, _, rfl, h.2, HR.out.2.2.1⟩
end Go.Proofs.YtflapnbpaodhaaaGreatDoor.hd
