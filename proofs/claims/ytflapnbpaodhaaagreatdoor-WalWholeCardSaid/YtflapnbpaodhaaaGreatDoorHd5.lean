/-
  The statements' helper blocks.
-/
import Derived.Test.YtflapnbpaodhaaaGreatDoorHd4
import Derived.Test.YtflapnbpaodhaaaGreatDoorPFull
namespace Go.Proofs.YtflapnbpaodhaaaGreatDoor.hd
set_option maxRecDepth 100000
open Go.RowKit Go.Maps ds
set_option maxRecDepth 100000

/-- Sectors with fills. -/
def blF (c : UInt8) : List Int → List (Int × List UInt8)
  | [] => []
  | a :: r => (a, one c) :: blF (c + 1) r
theorem blF_append (m : List Int) : ∀ (l : List Int) (c : UInt8), blF c (l ++ m) = blF c l ++ blF (c + UInt8.ofNat l.length) m
  | [], c => by
    show blF c m = [] ++ blF (c + 0) m
    rw [UInt8.add_zero]
    rfl
  | x :: r, c => by
    simp only [List.cons_append, blF, blF_append m r (c + 1), List.length_cons]
    rw [show c + 1 + UInt8.ofNat r.length = c + UInt8.ofNat (r.length + 1) by rw [UInt8.ofNat_add, UInt8.add_assoc, UInt8.add_comm 1]; rfl]
theorem blF_length : ∀ (l : List Int) (c : UInt8), (blF c l).length = l.length
  | [], c => rfl
  | x :: r, c => by simp only [blF, List.length_cons, blF_length r (c + 1)]
theorem blF_take (l : List Int) (c : UInt8) (k : Nat) {x : Int} (hx : l[k]? = some x) : blF c (l.take (k + 1)) = blF c (l.take k) ++ [(x, one (c + UInt8.ofNat k))] := by
  have hk := (List.getElem?_eq_some_iff.1 hx).1
  rw [List.take_succ_eq_append_getElem hk, blF_append, List.length_take, Nat.min_eq_left (by omega)]
  rw [List.getElem?_eq_getElem hk] at hx
  cases hx
  rfl
theorem u8_fill (c : UInt8) (k : Nat) : IntKind.u8.wrap ((c.toNat : Int) + IntKind.u8.wrap (k : Int)) = ((c + UInt8.ofNat k).toNat : Int) := by
  rw [UInt8.toNat_add, UInt8.toNat_ofNat']
  simp [IntKind.wrap, IntKind.bits, IntKind.signed]
theorem bl0 (w : World) (base : Nat) (hb : base ≤ w.heap.size) : AhR (w.alloc (.cells #[] 38)) base (.slice (some ⟨w.heap.size, 0, none⟩) 0 0) [] :=
  ⟨[], ⟨⟨rfl, Or.inr ⟨w.heap.size, 0, #[], rfl, hb, heap_alloc_new _ _, Nat.le_refl _, by unfold maxLen; omega, rfl, rfl⟩⟩, fun x hx => by cases hx⟩, rfl⟩

theorem one_length (c : UInt8) : (one c).length = 256 := List.length_replicate
theorem blNext {w w7 w9 : World} {k qc g9 : Nat} {q : Option Addr} {x : Int} {v v' : Value} {dl : List UInt8} {M M' : List (Int × List UInt8)} {L7 : List (Int × Value × List UInt8)}
    (hL : BRow w7 w.heap.size (.slice q k qc) L7) (hm : L7.map (fun x => (x.1, x.2.2)) = M) (hn : L7.length = k) (hd : DatT w7 v dl) (hF : Fr (fun _ => False) w w7) (ht : M' = M ++ [(x, dl)]) (hsz : w.heap.size < w7.heap.size)
    (hown : w9.ownsRow w.heap.size 38 2 v' (k + 1) (bcs L7 ++ [.int .i64 x, v])) (hg : (w7.alloc (.cells #[.int .i64 x, v] 38)).grownBy w9 (Value.slice q k qc).ownBlock) (hlt : g9 < w9.heap.size) :
    AhR w9 w.heap.size v' M' ∧ Fr (fun _ => False) w w9 ∧ w.heap.size < w9.heap.size ∧ g9 < w9.heap.size := by
  have hFa : Fr (fun _ => False) w7 (w7.alloc (.cells #[.int .i64 x, v] 38)) := (Fr.refl _ w7).alloc _
  refine ⟨?_, (hF.trans hFa (fun _ _ e => e)).grown hg (fun j e => Or.inr (hL.row j e).1), Nat.lt_of_lt_of_le hsz (Nat.le_trans hFa.size hg.size), hlt⟩
  rw [ht]
  exact AhR.snoc (hL.calm hFa) hm hn (hd.keep (Keep.of_fr hFa)) hown hg
set_option maxHeartbeats 4000000 in
theorem blocks_any (w : World) (c : UInt8) (A : Option Addr) (cap : Nat) (l : List Int) (hr : RdI w w.heap.size A l) (hn : l.length ≤ 2000000) :
    Calls Tryz.prog 8 #[.slice A l.length cap, .int .u8 (c.toNat : Int)] w fun e w' => ∃ p cap', e = .returned (.slice p l.length cap') ∧ SlT w' p cap' (blF c l) ∧ Fr (fun _ => False) w w' := by
  obtain ⟨i0, hi, hz0, hz1, hz2⟩ := info_parts infoBlk
  have HI := Lib.hid (⟨hi, hz0, hz1, hz2⟩ : _ ∧ _ ∧ _ ∧ _)
  obtain ⟨n, hn'⟩ : ∃ n, n = l.length := ⟨_, rfl⟩
  rw [← hn'] at hn ⊢
  have HR := Lib.hid hr
  have HLEN := Lib.hid hn'
  have H0 : Hid (AhR (w.alloc (.cells #[] 38)) w.heap.size (.slice (some ⟨w.heap.size, 0, none⟩) 0 0) (blF c (l.take 0)) ∧ Fr (fun _ => False) w (w.alloc (.cells #[] 38)) ∧ w.heap.size < (w.alloc (.cells #[] 38)).heap.size) := Lib.hid ⟨bl0 w _ (Nat.le_refl _), (Fr.refl _ w).alloc _, by simp⟩
  have HFU : Hid (∀ w2 (c : UInt8), Calls Tryz.prog 26 #[.int .u8 (c.toNat : Int)] w2 fun e w' => ∃ g, e = .returned (.slice (some ⟨g, 0, none⟩) 256 256) ∧ w2.heap.size ≤ g ∧ w'.heap[g]? = some (.cells (secC (one c)) 5 (0, 0)) ∧ Fr (fun _ => False) w2 w') := Lib.hid fun w2 c => play.full_one w2 c
  clear hi hz0 hz1 hz2 hr hn'
  go_enter Tryz.func8, Tryz.ntmps8
  go_wp2_with fail
  go_loopw [5, 6] (fun v5 v wr => ∃ k : Nat, k ≤ n ∧ v = .int .i64 k ∧ (∃ g cap, v5 = .slice (some ⟨g, 0, none⟩) k cap ∧ g < wr.heap.size) ∧ Hid (AhR wr w.heap.size v5 (blF c (l.take k)) ∧ Fr (fun _ => False) w wr ∧ w.heap.size < wr.heap.size)) (fun _ v _ => n - (intOf v).toNat)
  case atStart => exact ⟨0, Nat.zero_le _, rfl, ⟨_, _, rfl, H0.out.2.2⟩, H0⟩
  case round =>
    obtain ⟨k, hk, rfl, ⟨q, qc, rfl, hq⟩, HK⟩ := hrel
    by_cases hlt : k < n
    · have hkl : k < l.length := by have := HLEN.out; omega
      obtain ⟨x, hx⟩ : ∃ x, l[k]? = some x := ⟨_, List.getElem?_eq_getElem hkl⟩
      obtain ⟨blk, off, rfl, hb, hc⟩ := HR.out.1 (by rintro rfl; simp at hx)
      have HTK := Lib.hid (blF_take l c k hx)
      have HCX := Lib.hid (fun (w2 : World) (hF : Fr (fun _ => False) w w2) => (World.cell?_of_block (w := w) (w' := w2) (a := ⟨blk, off + k, none⟩) (hF.block blk hb id)).trans (hc k x hx))
      have hu := u8_fill c k
      obtain ⟨ck, hck⟩ : ∃ ck, ck = c + UInt8.ofNat k := ⟨_, rfl⟩
      rw [← hck] at hu HTK
      clear hx hkl hc hck hb
      go_wp2_with fail
      have HKw : Hid (AhR wr.drew w.heap.size (.slice (some ⟨q, 0, none⟩) k qc) (blF c (l.take k)) ∧ Fr (fun _ => False) w wr.drew ∧ w.heap.size < wr.drew.heap.size) := Lib.hid ⟨HK.out.1.calm (Fr.refl _ _).drew, HK.out.2.1.drew, HK.out.2.2⟩
      have hk0 : (0 : Int) ≤ k := by omega
      clear HK
      go_region_held3 (fun w' => w'.cell? ⟨blk, off + k, none⟩ = some (.int .i64 x))
        (first
          | exact HCX.out _ HKw.out.2.1
          | exact HCX.out _ H7.out.2.1
          | exact HCX.out _ (H7.out.2.1.alloc _)
          | exact HCX.out _ H9.out.2.1)
        (first
          | (go_at_call 26; (refine (HFU.out _ ck).mono ?_); rintro e w7 ⟨gd, rfl, _, hbd, hF7⟩; have H7 : Hid (AhR w7 w.heap.size (.slice (some ⟨q, 0, none⟩) k qc) (blF c (l.take k)) ∧ Fr (fun _ => False) w w7 ∧ w.heap.size < w7.heap.size ∧ DatT w7 (.slice (some ⟨gd, 0, none⟩) 256 256) (one ck)) := Lib.hid ⟨HKw.out.1.calm hF7, HKw.out.2.1.trans hF7 (fun _ _ e => e), Nat.lt_of_lt_of_le HKw.out.2.2 hF7.size, gd, 0, 256, 5, rfl, one_length ck, ⟨_, hbd⟩, by decide, by decide, reads_arr hbd⟩; obtain ⟨L7, hL7, hm7, hn7, ho7⟩ := H7.out.1.own; have HL7 := Lib.hid (⟨hL7, hm7, hn7, ho7⟩ : _ ∧ _ ∧ _ ∧ _); clear hF7 hbd hL7 hm7 hn7 ho7)
          | (refine step_append_lies _ rfl (.tmp 14) (.tmp 25) 30 rfl w.heap.size 38 i0 (.agg #[.int .i64 0, .slice none 0 0]) 2 32 Tryz.underlying30 HI.out.1 HI.out.2.1 HI.out.2.2.1 HI.out.2.2.2 rfl (by omega) _ k (bcs L7) rfl (HL7.out.2.2.2.alloc _) ⟨w7.heap.size, 0, none⟩ 1 1 [.int .i64 x, .slice (some ⟨gd, 0, none⟩) 256 256] rfl rfl (pair_cells _ _ _) (by intro u hu; simp at hu; rcases hu with rfl | rfl <;> rfl) (by omega) (by unfold maxLen; omega) (by omega) (by have := H7.out.2.2.1; simp; omega) _ rfl ?_; intro g9 cap9 w9 hown hgrow _ hlt9; have H9 : Hid (AhR w9 w.heap.size (.slice (some ⟨g9, 0, none⟩) (k + 1) cap9) (blF c (l.take (k + 1))) ∧ Fr (fun _ => False) w w9 ∧ w.heap.size < w9.heap.size ∧ g9 < w9.heap.size) := (Lib.hid (blNext HL7.out.1 HL7.out.2.1 HL7.out.2.2.1 H7.out.2.2.2 H7.out.2.1 HTK.out H7.out.2.2.1 hown hgrow hlt9)); clear hown hgrow hlt9))
      all_goals
        go_wp2_with fail
        go_roundw
        case rel => exact ⟨k + 1, by omega, by go_num, ⟨_, _, rfl, H9.out.2.2.2⟩, H9.out.1, H9.out.2.1, H9.out.2.2.1⟩
        case measure => simp [intOf]; omega
    · obtain rfl : k = n := by omega
      go_wp2_with fail
      go_ret
      have h := HK.out.1.bks
      rw [List.take_of_length_le (by rw [← HLEN.out]; omega)] at h
      exact ⟨_, _, rfl, ⟨h.2, fun e => (by cases e), fun a ha => by cases ha; exact ⟨_, _, rfl, hq⟩⟩, HK.out.2.1⟩
end Go.Proofs.YtflapnbpaodhaaaGreatDoor.hd
