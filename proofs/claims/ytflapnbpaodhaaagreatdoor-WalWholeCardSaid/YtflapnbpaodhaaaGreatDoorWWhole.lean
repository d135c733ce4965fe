/-
  WalWhole: whenever the power goes in a commit, and in the openings behind it, and whatever the crashes leave, as soon as the log is opened the sectors are all as they were, or all as the commit wants them; as it wants them, if it was answered OK. No condition but what the row lists of the program's table.
-/
import Derived.Test.YtflapnbpaodhaaaGreatDoorRows
import Derived.Test.YtflapnbpaodhaaaGreatDoorWe
import Derived.Test.YtflapnbpaodhaaaGreatDoorCu
import Derived.Test.YtflapnbpaodhaaaGreatDoorCrcW
import Derived.Test.YtflapnbpaodhaaaGreatDoorCards
import Derived.Test.YtflapnbpaodhaaaGreatDoorTie
import Derived.SevenTiedAt
namespace Go.Proofs.YtflapnbpaodhaaaGreatDoor.walWhole
set_option maxRecDepth 100000
open Go.Joins Go.ChangeShapes Go.WideShapes Go.ChangeAt Go.RowKit hd ds cu
set_option maxRecDepth 100000

theorem rdI_more {w : World} {B B' : Nat} {A : Option Addr} {l : List Int} (h : RdI w B A l) (hB : B ≤ B') : RdI w B' A l := ⟨fun hne => by
  obtain ⟨blk, off, hp, hb, hc⟩ := h.1 hne
  exact ⟨blk, off, hp, by omega, hc⟩, h.2⟩
theorem pickV_more {w : World} {B B' : Nat} {v : Value} {l : List Int} (h : PickV w B v l) (hB : B ≤ B') : PickV w B' v l := by
  obtain ⟨A, cap, e, hr, hl⟩ := h
  exact ⟨A, cap, e, rdI_more hr hB, hl⟩
theorem cutsP_more {w : World} {B B' : Nat} {A : Option Addr} {l : List (Int × Value × List Int)} (h : CutsP w B A l) (hB : B ≤ B') : CutsP w B' A l := fun hne => by
  obtain ⟨blk, off, e, hb, hc⟩ := h hne
  exact ⟨blk, off, e, by omega, fun i x hi => ⟨(hc i x hi).1, (hc i x hi).2.1, pickV_more (hc i x hi).2.2 hB⟩⟩
/-- What the sectors were. -/
def wasF (f : Int → List UInt8) (l : List (Int × List UInt8)) : List (Int × List UInt8) := l.map fun x => (x.1, f x.1)

/-- How the log stands between crashes: C of all that a crash may leave. -/
structure Mid (w1 : World) (pb N B : Nat) (C : (Int → List UInt8) → Prop) (pw : Option Addr) (want : List (Int × List UInt8)) (ps : Option Addr) (was : List (Int × List UInt8)) (d : DS) (wr : World) : Prop where
  dsk : IsD w1 pb N B d wr
  can : ∀ f, hd.Can N d f → C f
  want : BksT wr pw want
  was : BksT wr ps was
/-- .. and behind one. -/
structure Beh (w1 : World) (pb N B : Nat) (C : (Int → List UInt8) → Prop) (pw : Option Addr) (want : List (Int × List UInt8)) (ps : Option Addr) (was : List (Int × List UInt8)) (d : DS) (wr : World) : Prop where
  dsk : IsD w1 pb N B d wr
  sure : Sure d
  dk : d.dk = false
  img : C d.img
  want : BksT wr pw want
  was : BksT wr ps was
section
variable {w1 wr w' : World} {pb N B B' : Nat} {C E : (Int → List UInt8) → Prop} {pw ps : Option Addr} {want was : List (Int × List UInt8)} {d : DS}
theorem Mid.crash (h : Mid w1 pb N B C pw want ps was d wr) (hN : N ≤ 4096) (A : Option Addr) (cap : Nat) (l : List Int) (hp : PicksIn w1 wr A l) :
    Calls Tryz.prog 13 #[.pointer (some ⟨pb, 0, none⟩), .slice A l.length cap] wr fun e w' => e = .returned (.int .i64 0) ∧ ∃ d', Live d' ∧ Beh w1 pb N B C pw want ps was d' w' :=
  (h.dsk.crash A cap l hp).mono fun _ _ ⟨he, f, hf, hD, hK⟩ => ⟨he, _, behind_live f d.ops, ⟨hD, behind_sure f d.ops, rfl, h.can f (can_of hN hf), h.want.keep hK, h.was.keep hK⟩⟩
theorem Beh.mid (h : Beh w1 pb N B E pw want ps was d wr) (hR : Rec N C E) : Mid w1 pb N B E pw want ps was d wr :=
  ⟨h.dsk, fun f hf => hR.same d.img f (fun s h0 h1 => (h.sure s _ (hf s h0 h1)).symm) h.img, h.want, h.was⟩
theorem Beh.limit (h : Beh w1 pb N B C pw want ps was d wr) (n : Nat) (hn : n ≤ 1000) :
    Calls Tryz.prog 11 #[.pointer (some ⟨pb, 0, none⟩), .int .i64 n] wr fun e w' => e = .returned (.tuple #[]) ∧ Beh w1 pb N B C pw want ps was (d.limit n) w' :=
  (h.dsk.limit n hn).mono fun _ _ ⟨he, hD, hK⟩ => ⟨he, hD, sure_limit h.sure, h.dk, h.img, h.want.keep hK, h.was.keep hK⟩
/-- What an opening answers. -/
def Opn (w1 : World) (pb N B : Nat) (C E : (Int → List UInt8) → Prop) (pw : Option Addr) (want : List (Int × List UInt8)) (ps : Option Addr) (was : List (Int × List UInt8)) (e : Ending) (w' : World) : Prop :=
  (∃ wb d', e = .returned (.tuple #[.pointer (some ⟨wb, 0, none⟩), .int .i64 0]) ∧ Beh w1 pb N (B + 210) E pw want ps was d' w') ∨
    (∃ d', e = .returned (.tuple #[.pointer none, .int .i64 10]) ∧ Mid w1 pb N (B + 210) C pw want ps was d' w')
theorem Beh.open_ (h : Beh w1 pb N B C pw want ps was d wr) (hR : Rec N C E) (hT : cr.Tab w1) (h9 : 9 ≤ N) (hN : N ≤ 4096) (hB : B + 210 ≤ 100000000) :
    Calls Tryz.prog 14 #[.pointer (some ⟨pb, 0, none⟩), .int .i64 2, .int .i64 5] wr fun e w' => Opn w1 pb N B C E pw want ps was e w' := by
  refine (open_any w1 wr pb N B d h.dsk (hT.fr h.dsk.fr) 2 5 (by omega) (by omega) (by omega) hN hB).mono ?_
  rintro e w' ⟨hK, hD, hc⟩
  rcases hR.goes d h.sure h.dk h.img with ⟨z, b, c, k, _⟩ | ⟨z, b⟩
  · rcases hc with ⟨wb, rfl, _, _, _⟩ | ⟨_, hz⟩
    · exact Or.inl ⟨wb, _, rfl, hD, b, k, c, h.want.keep hK, h.was.keep hK⟩
    · exact absurd z hz
  · rcases hc with ⟨wb, _, hz, _, _⟩ | ⟨rfl, _⟩
    · rw [z] at hz; cases hz
    · exact Or.inr ⟨_, by rw [z], hD, b, h.want.keep hK, h.was.keep hK⟩
theorem Beh.open_live (h : Beh w1 pb N B C pw want ps was d wr) (hL : Live d) (hR : Rec N C E) (hT : cr.Tab w1) (h9 : 9 ≤ N) (hN : N ≤ 4096) (hB : B + 210 ≤ 100000000) :
    Calls Tryz.prog 14 #[.pointer (some ⟨pb, 0, none⟩), .int .i64 2, .int .i64 5] wr fun e w' => ∃ wb d', e = .returned (.tuple #[.pointer (some ⟨wb, 0, none⟩), .int .i64 0]) ∧ Beh w1 pb N (B + 210) E pw want ps was d' w' := by
  refine (open_any w1 wr pb N B d h.dsk (hT.fr h.dsk.fr) 2 5 (by omega) (by omega) (by omega) hN hB).mono ?_
  rintro e w' ⟨hK, hD, hc⟩
  have hz0 := hR.live d hL h.sure h.img
  rcases hR.goes d h.sure h.dk h.img with ⟨z, b, c, k, _⟩ | ⟨z, b⟩
  · rcases hc with ⟨wb, rfl, _, _, _⟩ | ⟨_, hz⟩
    · exact ⟨wb, _, rfl, hD, b, k, c, h.want.keep hK, h.was.keep hK⟩
    · exact absurd z hz
  · rw [hz0] at z; cases z
/-- An opening of what is sure to be opened. -/
theorem Beh.open_again (h : Beh w1 pb N B E pw want ps was d wr) (hR : Rec N C E) (hT : cr.Tab w1) (h9 : 9 ≤ N) (hN : N ≤ 4096) (hB : B + 210 ≤ 100000000) :
    Calls Tryz.prog 14 #[.pointer (some ⟨pb, 0, none⟩), .int .i64 2, .int .i64 5] wr fun e w' => ∃ wb, e = .returned (.tuple #[.pointer (some ⟨wb, 0, none⟩), .int .i64 0]) ∧ Beh w1 pb N (B + 210) E pw want ps was d w' := by
  obtain ⟨_, t, ht, hh⟩ := hR.last d.img h.img
  obtain ⟨ho, _⟩ := openR_void (N := N) (rc := 5) h.dk ht hh
  refine (open_any w1 wr pb N B d h.dsk (hT.fr h.dsk.fr) 2 5 (by omega) (by omega) (by omega) hN hB).mono ?_
  rintro e w' ⟨hK, hD, hc⟩
  rw [ho] at hD hc
  rcases hc with ⟨wb, rfl, _, _, _⟩ | ⟨_, hz⟩
  · exact ⟨wb, rfl, hD, h.sure, h.dk, h.img, h.want.keep hK, h.was.keep hK⟩
  · exact absurd rfl hz
theorem Beh.big (h : Beh w1 pb N B C pw want ps was d wr) (hB : B ≤ B') (hs : B' ≤ 100000000) : Beh w1 pb N B' C pw want ps was d wr := ⟨isD_big h.dsk hB hs, h.sure, h.dk, h.img, h.want, h.was⟩
theorem Mid.big (h : Mid w1 pb N B C pw want ps was d wr) (hB : B ≤ B') (hs : B' ≤ 100000000) : Mid w1 pb N B' C pw want ps was d wr := ⟨isD_big h.dsk hB hs, h.can, h.want, h.was⟩
end

theorem slT_keep {w w' : World} {p : Option Addr} {c : Nat} {l : List (Int × List UInt8)} (hK : Keep w w') (h : SlT w p c l) : SlT w' p c l :=
  ⟨h.bks.keep hK, h.none_, fun a ha => by
    obtain ⟨b, o, e, hb⟩ := h.some_ a ha
    exact ⟨b, o, e, Nat.lt_of_lt_of_le hb hK.1⟩⟩
theorem ahR_shape {w : World} {base : Nat} {v : Value} {l : List (Int × List UInt8)} (h : AhR w base v l) : ∃ p cap, v = .slice p l.length cap := by
  obtain ⟨L, hL, rfl⟩ := h
  obtain ⟨p, cap, rfl, _⟩ := hL.shape
  exact ⟨p, cap, by rw [List.length_map]⟩
theorem Beh.all_ {w1 wr : World} {pb N B : Nat} {E : (Int → List UInt8) → Prop} {pw ps : Option Addr} {want was : List (Int × List UInt8)} {d : DS} (h : Beh w1 pb N B E pw want ps was d wr) (p : Option Addr) (c n : Nat) (l : List (Int × List UInt8)) (hS : BksT wr p l) (hl : l.length = n) (hi : ∀ x ∈ l, 0 ≤ x.1 ∧ x.1 < (N : Int)) (hn : n ≤ 1000) :
    Calls Tryz.prog 15 #[.pointer (some ⟨pb, 0, none⟩), .slice p n c] wr fun e w' => ∃ b : Bool, e = .returned (.bool b) ∧ (b = true ↔ ∀ x ∈ l, d.img x.1 = x.2) ∧ Beh w1 pb N B E pw want ps was d w' ∧ Fr (fun _ => False) wr w' := by
  subst hl
  refine (all_dec wr h.dsk h.dk p c l hS hi hn).mono ?_
  rintro e w' ⟨⟨b, rfl, hb⟩, hF⟩
  exact ⟨b, rfl, hb, ⟨h.dsk.calm hF, h.sure, h.dk, h.img, h.want.keep (Keep.of_fr hF), h.was.keep (Keep.of_fr hF)⟩, hF⟩

set_option maxHeartbeats 8000000 in
theorem walk (s : Int) (A : Option Addr) (cap : Nat) (l : List Int) (x : UInt8) (A2 : Option Addr) (cap2 : Nat) (l2 : List (Int × Value × List Int)) (w : World) (hr : RdI w w.heap.size A l) (hb : l.length ≤ 140737488351232) (hr2 : CutsP w w.heap.size A2 l2) (hb2 : l2.length ≤ 9223372036854775807) (hT : cr.Tab w) :
    Calls Tryz.prog 3 #[.int .i64 s, .slice A l.length cap, .int .u8 (x.toNat : Int), .slice A2 l2.length cap2] w fun e w' => e = .returned (.bool true) ∧ Fr (fun _ => False) w w' := by
  have HW := Lib.hid (walWorks w hT)
  obtain ⟨n, hn'⟩ : ∃ n, n = l.length := ⟨_, rfl⟩
  obtain ⟨n2, hn2⟩ : ∃ n, n = l2.length := ⟨_, rfl⟩
  have HA := Lib.hid (⟨hr, hb, hn', hT, hr2, hn2⟩ : _ ∧ _ ∧ _ ∧ _ ∧ _ ∧ _)
  obtain ⟨i0, hi, hz0, hz1, hz2⟩ := info_parts infoBlk
  have HI := Lib.hid (⟨hi, hz0, hz1, hz2⟩ : _ ∧ _ ∧ _ ∧ _)
  rw [← hn2] at hb2
  rw [← hn', ← hn2]
  clear hr hb hn' hT hr2 hn2 hi hz0 hz1 hz2
  go_enter Tryz.func3, Tryz.ntmps3
  go_wp2_with fail
  refine HW.out.mono ?_
  rintro e w1 ⟨rfl, hF1⟩
  have H1 := Lib.hid hF1
  clear hF1 HW
  go_wp2_with fail
  refine (among_nat _ _ 20 (by omega) (by omega)).mono ?_
  rintro e w' ⟨m, hm, rfl, rfl⟩
  go_wp2_with fail
  obtain ⟨N, hN⟩ : ∃ N : Nat, N = 9 + m := ⟨_, rfl⟩
  rw [show (9 : Int) + (m : Int) = (N : Int) by omega]
  have hN9 : 9 ≤ N := by omega
  have hN28 : N ≤ 28 := by omega
  clear hN hm
  have HT1 := Lib.hid (HA.out.2.2.2.1.fr H1.out)
  have HC1 := Lib.hid (cutsP_more (HA.out.2.2.2.2.1.still H1.out (Nat.le_refl _)) H1.out.size)
  have HL2 := Lib.hid HA.out.2.2.2.2.2
  refine (begun_sure w1 HT1.out N hN9 (by omega)).mono ?_
  rintro e w2 ⟨pb, wb, d, rfl, hB, hsu, hh⟩
  have H2 := Lib.hid (⟨hB, hsu, rdI_more ((HA.out.1.still H1.out (Nat.le_refl _)).still hB.dsk.fr H1.out.size) (Nat.le_trans H1.out.size hB.dsk.fr.size), hh⟩ : BegP w1 pb wb N 1000 w2 d ∧ Sure d ∧ RdI w2 w2.heap.size A l ∧ d.img at2 = hdrL 0 [])
  clear hB hsu hh
  have HAT := Lib.hid (ats_any w2 A cap l N H2.out.2.2.1 HA.out.2.1 hN9 (by omega))
  rw [← HA.out.2.2.1] at HAT
  clear HA
  go_wp2_with fail
  refine HAT.out.mono ?_
  rintro e w3 ⟨p, K, c, rfl, hK, xs, hX, hO, hF3⟩
  have hO' := hO
  rw [← hX.1] at hO'
  have HBL := Lib.hid (blocks_any w3 x p c xs (hO'.rd (hX.in64 (by omega))) (by have := hX.1; omega))
  rw [hX.1] at HBL
  have H3 := Lib.hid (⟨hX, hF3⟩ : _ ∧ _)
  clear hO' hO hX hF3 HAT
  go_wp2_with fail
  refine HBL.out.mono ?_
  rintro e w4 ⟨p4, c4, rfl, hS4, hF4⟩
  have hF24 := H3.out.2.trans hF4 (fun _ _ e => e)
  have H4 := Lib.hid (⟨H2.out.1.dsk.calm hF24, fr_blk hF24 H2.out.1.wal, hS4⟩ : IsD w1 pb N 1000 d w4 ∧ w4.heap[wb]? = some (walO pb 2 5 0 false) ∧ SlT w4 p4 c4 (blF x xs))
  clear hS4 hF4 hF24 HBL
  have HBW := Lib.hid (show (blF x xs).length = K by rw [blF_length, H3.out.1.1])
  have HBI : Hid (∀ y ∈ blF x xs, 0 ≤ y.1 ∧ y.1 < (N : Int)) := Lib.hid fun y hy => by have := H3.out.1.2.2 _ (blF_mem hy); omega
  have H50 : Hid (AhR (w4.alloc (.cells #[] 38)) w4.heap.size (.slice (some ⟨w4.heap.size, 0, none⟩) 0 0) (wasF d.img ((blF x xs).take 0)) ∧ Fr (fun _ => False) w4 (w4.alloc (.cells #[] 38)) ∧ w4.heap.size < (w4.alloc (.cells #[] 38)).heap.size) := Lib.hid ⟨bl0 w4 _ (Nat.le_refl _), (Fr.refl _ w4).alloc _, by simp⟩
  go_wp2_with fail
  go_loopw [12, 13] (fun v12 v wr => ∃ k : Nat, k ≤ K ∧ v = .int .i64 k ∧ (∃ g cap, v12 = .slice g k cap) ∧ Hid (AhR wr w4.heap.size v12 (wasF d.img ((blF x xs).take k)) ∧ Fr (fun _ => False) w4 wr ∧ w4.heap.size < wr.heap.size)) (fun _ v _ => K - (intOf v).toNat)
  case atStart => exact ⟨0, Nat.zero_le _, rfl, ⟨_, _, rfl⟩, H50⟩
  case round =>
    obtain ⟨k, hk, rfl, ⟨q, qc, rfl⟩, HK⟩ := hrel
    clear H50
    by_cases hlt : k < K
    · have hkl : k < (blF x xs).length := by have := HBW.out; omega
      obtain ⟨y, hy⟩ : ∃ y, (blF x xs)[k]? = some y := ⟨_, List.getElem?_eq_getElem hkl⟩
      obtain ⟨blk, off, rfl, hty, hbk⟩ := H4.out.2.2.bks (by intro e; rw [e] at hy; simp at hy)
      have HTK := Lib.hid (show wasF d.img ((blF x xs).take (k + 1)) = wasF d.img ((blF x xs).take k) ++ [(y.1, d.img y.1)] by
        unfold wasF
        rw [List.take_add_one, hy, List.map_append]
        rfl)
      have HCX := Lib.hid (fun (w2 : World) (hF : Fr (fun _ => False) w4 w2) => (World.cell?_of_block (w := w4) (w' := w2) (a := ⟨blk, off + k * 2, none⟩) (hF.block blk hty.lt id)).trans (hbk k y hy).1)
      obtain ⟨y0, y1⟩ := HBI.out y (List.mem_of_getElem? hy)
      have HYL := Lib.hid (H4.out.1.len y0 y1)
      obtain ⟨yl, hyl⟩ : ∃ yl, yl = d.img y.1 := ⟨_, rfl⟩
      obtain ⟨ya, hya⟩ : ∃ ya, ya = y.1 := ⟨_, rfl⟩
      have HRD := Lib.hid ((H4.out.1.calm HK.out.2.1).read H2.out.1.live.2 y.1 y0 y1)
      rw [← hyl] at HTK HRD HYL
      rw [← hya] at HTK HRD HCX y0 y1
      have c0 := HCX.out _ HK.out.2.1
      clear hkl hy hty hbk hyl hya
      go_wp2_with fail
      refine HRD.out.mono ?_
      rintro e w5 ⟨g, rfl, _, hg, hF5⟩
      have hF45 := HK.out.2.1.trans hF5 (fun _ _ e => e)
      have hF5a := (Fr.refl (fun _ => False) w5).alloc (.cells #[.int .i64 ya, .slice (some ⟨g, 0, none⟩) 256 256] 38)
      have H5 := Lib.hid (⟨HK.out.1.calm hF5, hF45, Nat.lt_of_lt_of_le HK.out.2.2 hF5.size, g, 0, 256, 68, rfl, HYL.out, ⟨_, hg⟩, by decide, by decide, reads_arr hg⟩ : AhR w5 w4.heap.size (.slice q k qc) (wasF d.img ((blF x xs).take k)) ∧ Fr (fun _ => False) w4 w5 ∧ w4.heap.size < w5.heap.size ∧ DatT w5 (.slice (some ⟨g, 0, none⟩) 256 256) yl)
      have c5 := HCX.out _ hF45
      obtain ⟨L7, hL7, hm7, hn7, ho7⟩ := H5.out.1.own
      have HL7 := Lib.hid (⟨hL7, hm7, hn7, ho7.alloc (.cells #[.int .i64 ya, .slice (some ⟨g, 0, none⟩) 256 256] 38)⟩ : _ ∧ _ ∧ _ ∧ _)
      clear hg hF5 hF45 hL7 hm7 hn7 ho7 hF5a c0 HRD HK
      go_wp2_with (at_builtin; refine wpList_append_own _ rfl (.tmp 56) (.tmp 64) 30 rfl w4.heap.size 38 i0 (.agg #[.int .i64 0, .slice none 0 0]) 2 32 Tryz.underlying30 HI.out.1 HI.out.2.1 HI.out.2.2.1 HI.out.2.2.2 rfl (by omega) _ k (bcs L7) rfl HL7.out.2.2.2 ⟨w5.heap.size, 0, none⟩ 1 1 [.int .i64 ya, .slice (some ⟨g, 0, none⟩) 256 256] rfl rfl (pair_cells _ _ _) ?c2 ?c3 ?c4 ?c5 ?c6)
      case c2 =>
        intro u hu
        simp at hu
        rcases hu with rfl | rfl <;> rfl
      case c3 => unfold maxLen; omega
      case c4 => omega
      case c5 => have := H5.out.2.2.1; simp; omega
      case c6 =>
        intro v' w9 hown hgrow hnil
        have hA := AhR.snoc (hL := HL7.out.1.calm ((Fr.refl (fun _ => False) w5).alloc (.cells #[.int .i64 ya, .slice (some ⟨g, 0, none⟩) 256 256] 38))) HL7.out.2.1 HL7.out.2.2.1 (H5.out.2.2.2.keep (Keep.of_fr ((Fr.refl (fun _ => False) w5).alloc (.cells #[.int .i64 ya, .slice (some ⟨g, 0, none⟩) 256 256] 38)))) hown hgrow
        rw [← HTK.out] at hA
        obtain ⟨q', qc', e'⟩ := ahR_shape hA
        rw [show (wasF d.img ((blF x xs).take (k + 1))).length = k + 1 by unfold wasF; rw [List.length_map, List.length_take, HBW.out]; omega] at e'
        subst e'
        have H9 := Lib.hid (⟨hA, (H5.out.2.1.trans ((Fr.refl (fun _ => False) w5).alloc (.cells #[.int .i64 ya, .slice (some ⟨g, 0, none⟩) 256 256] 38)) (fun _ _ e => e)).grown hgrow (fun j e => Or.inr (HL7.out.1.row j e).1), Nat.lt_of_lt_of_le (Nat.lt_of_lt_of_le H5.out.2.2.1 ((Fr.refl (fun _ => False) w5).alloc (.cells #[.int .i64 ya, .slice (some ⟨g, 0, none⟩) 256 256] 38)).size) hgrow.size⟩ : AhR w9 w4.heap.size (.slice q' (k + 1) qc') (wasF d.img ((blF x xs).take (k + 1))) ∧ Fr (fun _ => False) w4 w9 ∧ w4.heap.size < w9.heap.size)
        clear hown hgrow hnil hA c5
        go_wp2_with fail
        go_roundw
        case rel => exact ⟨k + 1, by omega, by go_num, ⟨_, _, rfl⟩, H9⟩
        case measure => simp [intOf]; omega
    · obtain rfl : K = k := by omega
      have HK' := HK.out
      rw [List.take_of_length_le (by rw [HBW.out]; omega)] at HK'
      have HS4 := Lib.hid (⟨H4.out.1.calm HK'.2.1, fr_blk HK'.2.1 H4.out.2.1, H4.out.2.2.calm HK'.2.1, HK'.1.bks.2⟩ : IsD w1 pb N 1000 d wr ∧ wr.heap[wb]? = some (walO pb 2 5 0 false) ∧ SlT wr p4 c4 (blF x xs) ∧ BksT wr q (wasF d.img (blF x xs)))
      have HWI : Hid (∀ y ∈ wasF d.img (blF x xs), 0 ≤ y.1 ∧ y.1 < (N : Int)) := Lib.hid fun y hy => by
        obtain ⟨u, hu, rfl⟩ := List.mem_map.1 hy
        exact HBI.out u hu
      have HSU := Lib.hid (⟨H2.out.2.1, H2.out.2.2.2, H2.out.1.lt⟩ : Sure d ∧ d.img at2 = hdrL 0 [] ∧ w1.heap.size ≤ wb)
      have HCUT : Hid (∀ i : Nat, i < n2 → ∃ blk off, A2 = some ⟨blk, off, none⟩ ∧ ∃ z A3 cap3 l3, (∀ B dd wq, IsD w1 pb N B dd wq → wq.cell? ⟨blk, off + i * 2, none⟩ = some (.int .i64 z) ∧ wq.cell? ⟨blk, off + i * 2 + 1, none⟩ = some (.slice A3 (List.length l3) cap3) ∧ PicksIn w1 wq A3 l3)) := Lib.hid fun i hi => by
        have hil : i < l2.length := by have := HL2.out; omega
        obtain ⟨y, hy⟩ : ∃ y, l2[i]? = some y := ⟨_, List.getElem?_eq_getElem hil⟩
        obtain ⟨blk, off, e, hb, hc⟩ := HC1.out (by rintro rfl; simp at hy)
        obtain ⟨c0, c1, A3, cap3, e1, hr3, hl3⟩ := hc i y hy
        refine ⟨blk, off, e, y.1, A3, cap3, y.2.2, fun B dd wq hD => ?_⟩
        have kk : ∀ o v, w1.cell? ⟨blk, o, none⟩ = some v → wq.cell? ⟨blk, o, none⟩ = some v := fun o v hv => (World.cell?_of_block (w := w1) (w' := wq) (a := ⟨blk, o, none⟩) (hD.fr.block blk hb id)).trans hv
        rw [e1] at c1
        exact ⟨kk _ _ c0, kk _ _ c1, picks_in hr3 hl3 hD⟩
      clear HK' HK H4 H2 HC1 HL2 HI hk hlt
      by_cases hn0 : n2 = 0
      case' pos =>
        have hc0 : ¬ 0 < n2 := by omega
        obtain ⟨d5, hd5⟩ : ∃ d5, d5 = d := ⟨_, rfl⟩
        have H5 := Lib.hid (⟨by rw [hd5]; exact HS4.out.1, by rw [hd5]; exact HSU.out.1, by rw [hd5], HS4.out.2⟩ : IsD w1 pb N 1000 d5 wr ∧ Sure d5 ∧ d5.img = d.img ∧ wr.heap[wb]? = some (walO pb 2 5 0 false) ∧ SlT wr p4 c4 (blF x xs) ∧ BksT wr q (wasF d.img (blF x xs)))
        clear hd5 HS4 hn0
        go_wp2_with fail
        obtain ⟨w5, hw5⟩ : ∃ w5, w5 = wr := ⟨_, rfl⟩
        subst hw5
        clear hc0
      case' neg =>
        have hc0 : 0 < n2 := by omega
        obtain ⟨blk, off, rfl, z0, A3, cap3, l3, hcut⟩ := HCUT.out 0 (by omega)
        have cz := (hcut _ _ _ HS4.out.1).1
        rw [show off + 0 * 2 = off by omega] at cz
        clear hcut hn0
        go_wp2_with fail
        refine (among_nat _ _ 24 (by omega) (by omega)).mono ?_
        rintro e w' ⟨m2, hm2, rfl, rfl⟩
        have HLM := Lib.hid (HS4.out.1.limit m2 (by omega))
        clear cz hm2
        go_wp2_with fail
        refine HLM.out.mono ?_
        rintro e w5 ⟨rfl, hDb, hKb⟩
        obtain ⟨d5, hd5⟩ : ∃ d5, d5 = d.limit m2 := ⟨_, rfl⟩
        rw [← hd5] at hDb
        have H5 := Lib.hid (⟨hDb, by rw [hd5]; exact sure_limit HSU.out.1, by rw [hd5]; rfl, keep_walO hKb HS4.out.2.1, slT_keep hKb HS4.out.2.2.1, HS4.out.2.2.2.keep hKb⟩ : IsD w1 pb N 1000 d5 w5 ∧ Sure d5 ∧ d5.img = d.img ∧ w5.heap[wb]? = some (walO pb 2 5 0 false) ∧ SlT w5 p4 c4 (blF x xs) ∧ BksT w5 q (wasF d.img (blF x xs)))
        clear hd5 hDb hKb HLM HS4 hc0
        go_wp2_with fail
      all_goals
        have HCM := Lib.hid (commit_any w1 w5 pb N 1000 wb 2 5 0 d5 false H5.out.1 (HT1.out.fr H5.out.1.fr) H5.out.2.2.2.1 HSU.out.2.2 (by omega) (by omega) (by omega) (by omega) p4 c4 (blF x xs) H5.out.2.2.2.2.1 (by rw [HBW.out]; omega) (by omega))
        rw [HBW.out] at HCM
        refine HCM.out.mono ?_
        rintro e w6 ⟨l', hp, hs, he, hD6, -, hK6⟩
        obtain ⟨C, E, hR, hC, hE, hzz⟩ := com_rec H5.out.2.1 (by rw [H5.out.2.2.1]; exact HSU.out.2.1) hN9 (by omega) H3.out.1 hK hp hs
        obtain ⟨zc, hzc⟩ : ∃ zc, zc = (comR N 2 5 d5 0 false l').2.1 := ⟨_, rfl⟩
        rw [← hzc] at he hE hzz
        subst he
        obtain ⟨d6, hd6⟩ : ∃ d6, d6 = (comR N 2 5 d5 0 false l').1 := ⟨_, rfl⟩
        rw [← hd6] at hD6 hC
        obtain ⟨dn, hdn⟩ : ∃ dn : Bool, dn = (zc == 0) := ⟨_, rfl⟩
        have HE : Hid (∀ f, E f → (∀ y ∈ blF x xs, f y.1 = y.2) ∨ (dn = false ∧ ∀ y ∈ wasF d.img (blF x xs), f y.1 = y.2)) := Lib.hid fun f hf => by
          rcases hE f hf with h | ⟨h, h2⟩
          · exact Or.inl h
          · refine Or.inr ⟨by rw [hdn, beq_eq_false_iff_ne]; exact h, fun y hy => ?_⟩
            obtain ⟨u, hu, rfl⟩ := List.mem_map.1 hy
            have := H3.out.1.2.2 _ (blF_mem hu)
            show f u.1 = d.img u.1
            rw [h2 u.1 this.1 this.2, H5.out.2.2.1]
        have HM := Lib.hid (⟨hD6, hC, H5.out.2.2.2.2.1.bks.keep2 hK6, H5.out.2.2.2.2.2.keep2 hK6⟩ : Mid w1 pb N (1000 + 500) C p4 (blF x xs) q (wasF d.img (blF x xs)) d6 w6)
        have HR := Lib.hid hR
        clear hp hs hD6 hK6 hC hE hd6 HCM H5 hzc hR
        have hdz : (zc == 0) = dn := hdn.symm
        clear hdn hzz
        go_wp2_with fail
        clear hdz
        go_loopw [17] (fun v wr2 => ∃ i : Nat, i ≤ n2 ∧ i ≤ 8 ∧ v = .int .i64 i ∧ Hid (∃ dd, Mid w1 pb N (1500 + 500 * i) C p4 (blF x xs) q (wasF d.img (blF x xs)) dd wr2)) (fun v _ => 8 - (intOf v).toNat)
        case atStart => exact ⟨0, Nat.zero_le _, by omega, rfl, (show ∃ _, _ from ⟨d6, HM.out⟩)⟩
        case round =>
          obtain ⟨i, hi, hi8, rfl, HK⟩ := hrel
          clear HM
          obtain ⟨dd, hM⟩ := HK.out
          have HM := Lib.hid hM
          clear hM HK
          by_cases hlt : i < n2 ∧ i < 8
          · obtain ⟨hlt, hlt8⟩ := hlt
            obtain ⟨blk, off, e, z1, A3, cap3, l3, hcut⟩ := HCUT.out i hlt
            cases e
            obtain ⟨-, c1, hpi⟩ := hcut _ _ _ HM.out.dsk
            have HCR := Lib.hid (HM.out.crash (by omega) A3 cap3 l3 hpi)
            obtain ⟨n3, hn3⟩ : ∃ n3, n3 = l3.length := ⟨_, rfl⟩
            rw [← hn3] at c1 HCR
            clear hcut hpi hn3
            go_wp2_with fail
            refine HCR.out.mono ?_
            rintro e w7 ⟨rfl, d7, -, hB7⟩
            have HB7 := Lib.hid hB7
            clear hB7 HCR c1
            have h3 : (i + 1 < n2 ∧ i < 7) ∨ (i + 1 < n2 ∧ ¬ i < 7) ∨ ¬ i + 1 < n2 := by omega
            rcases h3 with ⟨hin, hi7⟩ | ⟨hin, hi7⟩ | hin
            case' inl =>
              obtain ⟨blk2, off2, e, z2, A4, cap4, l4, hcut⟩ := HCUT.out (i + 1) hin
              cases e
              have c2 := (hcut _ _ _ HB7.out.dsk).1
              clear hcut
              go_wp2_with fail
              refine (among_nat _ _ 16 (by omega) (by omega)).mono ?_
              rintro e w' ⟨m3, hm3, rfl, rfl⟩
              have HLM := Lib.hid (HB7.out.limit m3 (by omega))
              clear c2 hm3 HB7
              go_wp2_with fail
              refine HLM.out.mono ?_
              rintro e w8 ⟨rfl, hB8⟩
              obtain ⟨d8, hd8⟩ : ∃ d8, d8 = d7.limit m3 := ⟨_, rfl⟩
              rw [← hd8] at hB8
              have HB8 := Lib.hid hB8
              clear hB8 hd8 HLM
              go_wp2_with fail
            case' inr.inl =>
              obtain ⟨w8, hw8⟩ : ∃ w8, w8 = w7 := ⟨_, rfl⟩
              subst hw8
              obtain ⟨d8, hd8⟩ : ∃ d8, d8 = d7 := ⟨_, rfl⟩
              subst hd8
              have HB8 := HB7
              clear HB7
              go_wp2_with fail
            case' inr.inr =>
              obtain ⟨w8, hw8⟩ : ∃ w8, w8 = w7 := ⟨_, rfl⟩
              subst hw8
              obtain ⟨d8, hd8⟩ : ∃ d8, d8 = d7 := ⟨_, rfl⟩
              subst hd8
              have HB8 := HB7
              clear HB7
              go_wp2_with fail
            all_goals
              have HOP := Lib.hid (HB8.out.open_ HR.out HT1.out hN9 (by omega) (by omega))
              refine HOP.out.mono ?_
              rintro e w9 (⟨wb9, d9, rfl, hb9⟩ | ⟨d9, rfl, hm9⟩)
              · have HM9 := Lib.hid (hb9.mid HR.out)
                have HCN : Hid (Calls Tryz.prog 13 #[.pointer (some ⟨pb, 0, none⟩), .slice none 0 0] w9 fun e w' => e = .returned (.int .i64 0) ∧ ∃ d', Live d' ∧ Beh w1 pb N _ E p4 (blF x xs) q (wasF d.img (blF x xs)) d' w') := Lib.hid (HM9.out.crash (by omega) none 0 [] (picks_none w1 w9))
                clear hb9 HOP HB8 HM9
                go_wp2_with fail
                refine HCN.out.mono ?_
                rintro e w10 ⟨rfl, d10, -, hB10⟩
                have HO2 := Lib.hid (hB10.open_again HR.out HT1.out hN9 (by omega) (by omega))
                clear hB10 HCN
                go_wp2_with fail
                refine HO2.out.mono ?_
                rintro e w11 ⟨wb11, rfl, hB11⟩
                have HB11 := Lib.hid hB11
                clear hB11 HO2
                have HAW := Lib.hid (HB11.out.all_ p4 c4 K (blF x xs) HB11.out.want HBW.out HBI.out (by omega))
                go_wp2_with fail
                refine HAW.out.mono ?_
                rintro e wa ⟨b1, rfl, hb1, hBa, _⟩
                have HBA := Lib.hid hBa
                have HEE := Lib.hid (HE.out _ hBa.img)
                clear hBa HAW
                cases b1 with
                | true =>
                  clear hb1
                  go_wp2_with fail
                  go_ret
                  exact ⟨rfl, H1.out.trans HBA.out.dsk.fr (fun _ _ e => e)⟩
                | false =>
                  have hno : ¬ ∀ y ∈ blF x xs, _ := fun h => Bool.noConfusion (hb1.2 h)
                  obtain ⟨hdn, hws⟩ : dn = false ∧ _ := HEE.out.resolve_left hno
                  subst hdn
                  have HAW := Lib.hid (HBA.out.all_ q qc K (wasF d.img (blF x xs)) HBA.out.was (by unfold wasF; rw [List.length_map, HBW.out]) HWI.out (by omega))
                  have HWS := Lib.hid hws
                  clear hno hws HEE hb1
                  go_wp2_with fail
                  refine HAW.out.mono ?_
                  rintro e wb2 ⟨b2, rfl, hb2, hBb, _⟩
                  obtain rfl : b2 = true := hb2.2 HWS.out
                  have HBB := Lib.hid hBb
                  clear hBb hb2 HAW
                  go_wp2_with fail
                  go_ret
                  exact ⟨rfl, H1.out.trans HBB.out.dsk.fr (fun _ _ e => e)⟩
              · have HM9 := Lib.hid (hm9.big (B' := 1500 + 500 * (i + 1)) (by omega) (by omega))
                clear hm9 HOP HB8
                go_wp2_with fail
                go_roundw
                case rel => exact ⟨i + 1, by omega, by omega, by go_num, (show ∃ _, _ from ⟨d9, HM9.out⟩)⟩
                case measure => simp [intOf]; omega
          · have HCN : Hid (Calls Tryz.prog 13 #[.pointer (some ⟨pb, 0, none⟩), .slice none 0 0] wr fun e w' => e = .returned (.int .i64 0) ∧ ∃ d', Live d' ∧ Beh w1 pb N _ C p4 (blF x xs) q (wasF d.img (blF x xs)) d' w') := Lib.hid (HM.out.crash (by omega) none 0 [] (picks_none w1 wr))
            have hlim : ¬ i < n2 ∨ (i < n2 ∧ ¬ i < 8) := by omega
            clear hlt
            rcases hlim with hlim | ⟨hlim, hlim8⟩
            all_goals
              go_wp2_with fail
              refine HCN.out.mono ?_
              rintro e w10 ⟨rfl, d10, hL10, hB10⟩
              have HO2 := Lib.hid (hB10.open_live hL10 HR.out HT1.out hN9 (by omega) (by omega))
              clear hB10 hL10 HCN
              go_wp2_with fail
              refine HO2.out.mono ?_
              rintro e w11 ⟨wb11, d11, rfl, hB11⟩
              have HB11 := Lib.hid hB11
              clear hB11 HO2
              have HAW := Lib.hid (HB11.out.all_ p4 c4 K (blF x xs) HB11.out.want HBW.out HBI.out (by omega))
              go_wp2_with fail
              refine HAW.out.mono ?_
              rintro e wa ⟨b1, rfl, hb1, hBa, _⟩
              have HBA := Lib.hid hBa
              have HEE := Lib.hid (HE.out _ hBa.img)
              clear hBa HAW
              cases b1 with
              | true =>
                clear hb1
                go_wp2_with fail
                go_ret
                exact ⟨rfl, H1.out.trans HBA.out.dsk.fr (fun _ _ e => e)⟩
              | false =>
                have hno : ¬ ∀ y ∈ blF x xs, _ := fun h => Bool.noConfusion (hb1.2 h)
                obtain ⟨hdn, hws⟩ : dn = false ∧ _ := HEE.out.resolve_left hno
                subst hdn
                have HAW := Lib.hid (HBA.out.all_ q qc K (wasF d.img (blF x xs)) HBA.out.was (by unfold wasF; rw [List.length_map, HBW.out]) HWI.out (by omega))
                have HWS := Lib.hid hws
                clear hno hws HEE hb1
                go_wp2_with fail
                refine HAW.out.mono ?_
                rintro e wb2 ⟨b2, rfl, hb2, hBb, _⟩
                obtain rfl : b2 = true := hb2.2 HWS.out
                have HBB := Lib.hid hBb
                clear hBb hb2 HAW
                go_wp2_with fail
                go_ret
                exact ⟨rfl, H1.out.trans HBB.out.dsk.fr (fun _ _ e => e)⟩
/-! ### the row -/
theorem laidOut : laidOutB Tryz.prog = true := by kernel_rfl
theorem own : ownKnob Tryz.prog.godebug = none := by kernel_rfl
set_option maxRecDepth 100000 in
theorem lifted (os : Os) (started : os.Started) (H : Type) (enc : TypeId × Value → H) :
    ReturnsInHanded {} Tryz.checked os 3 .any (fun w args => (Rows.walWholeSpec.pre enc Tryz.prog Tryz.f3 [] false w args ∧ laidMetH Tryz.prog cr.laidL w) ∧ sizedMet enc Tryz.prog Tryz.f3 (OpenSpec.ofChange Rows.walWholeSpec) false w args)
      (Rows.walWholeSpec.post enc Tryz.prog Tryz.f3 false true false false) := by
  refine returnsInHanded_of_change_and (C := Tryz.checked) (X := fun w _ => laidMetH Tryz.prog cr.laidL w) (fun _ _ _ hh h => h.of_heap hh) own started (by kernel_rfl) Tryz.func3
    (ChangeSpec.witness_shaped (enc := enc) (C := Tryz.checked) (os := os) (X := fun w _ => laidMetH Tryz.prog cr.laidL w) false (World.doorLaid Tryz.prog 400 os) #[.int .i64 0, .slice none 0 0, .int .u8 0, .slice none 0 0] 8 rfl (World.shaped_of_RefB (by kernel_rfl) (by kernel_rfl)) (by kernel_rfl) (by kernel_rfl) (by kernel_rfl) (cr.door_met os _)) ?_
  intro W base args ds gs before hval0 hW _ hsz0 hL _
  have hval : ∀ (j : Nat) t v, Tryz.f3.params[j]? = some t → args[j]? = some v → Value.okWide Tryz.prog W .any base t v := hval0
  have hsz : (DataW.weightsEach Tryz.prog (Tryz.f3.params.toList ++ Rows.walWholeSpec.plain.varTypes Tryz.prog) (ds ++ gs)).all (· ≤ reachBytes) = true := hsz0
  have hW' := hW
  obtain ⟨p, q, hA0, hV, rfl, hfz, hnd⟩ := hW
  have hA : DataW.TrodAll enc Tryz.prog W 0 (fun _ => true) true Tryz.f3.params.toList args.toList ds p := hA0
  rw [Tryz.params3] at hA hval hsz
  obtain ⟨v0, vs0, d0, ds0, p0, q0, hargs, rfl, rfl, h0, r0⟩ := trodAll_cons hA
  obtain ⟨v1, vs1, d1, ds1, p1, q1, rfl, rfl, rfl, h1, r1⟩ := trodAll_cons r0
  obtain ⟨v2, vs2, d2, ds2, p2, q2, rfl, rfl, rfl, h2, r2⟩ := trodAll_cons r1
  obtain ⟨v3, vs3, d3, ds3, p3, q3, rfl, rfl, rfl, h3, r3⟩ := trodAll_cons r2
  obtain ⟨rfl, rfl, rfl⟩ := trodAll_nil r3
  obtain rfl : args = #[v0, v1, v2, v3] := by cases args; simp_all
  obtain ⟨rfl, rfl⟩ := trodVars_none hV
  obtain ⟨a0, rfl, rfl, rfl, w0⟩ := open_int Tryz.underlying3 (hval 0 3 v0 rfl rfl) h0
  obtain ⟨A1, cap1, l1, rfl, hr1, hA1, hc1, hl1⟩ := ints_open (fun _ => rfl) (fun el sp (e : d1 = .slice el sp) => sized_slice hsz (j := 1) (t := 22) (e := 3) rfl (by rw [e]; rfl) Tryz.underlying22) (hval 1 22 v1 rfl rfl) h1
  obtain ⟨a2, rfl, rfl, rfl, w2⟩ := open_int Tryz.underlying5 (hval 2 5 v2 rfl rfl) h2
  have hw3 : ∀ n ∈ d3.weights Tryz.prog 23, n ≤ reachBytes := fun n hn => by
    have := List.all_eq_true.1 hsz n (by simp [DataW.weightsEach, hn])
    simpa using this
  obtain ⟨a3, len3, cap3, rfl⟩ := okWide_slice Tryz.underlying23 (hval 3 23 v3 rfl rfl)
  obtain ⟨l3, rfl, hl3, hp3⟩ := cuts_open (fun _ => rfl) hw3 h3
  clear hA0 hval0 hsz0
  simp only [List.append_nil] at hW'
  try simp only [List.nil_append] at hW'
  have hlt1 : ∀ x ∈ p1, x.block < W.heap.size := fun x hx => by simpa using hW'.lt x (by simp [hx])
  have hlt3 : ∀ x ∈ p3, x.block < W.heap.size := fun x hx => by simpa using hW'.lt x (by simp [hx])
  obtain ⟨x, rfl⟩ := cr.u8_of_wf w2
  have hT := cr.tab_of_laid hL
  refine (walk a0 A1 cap1 l1 x a3 cap3 l3 W hr1 hl1 hp3 hl3 hT).mono fun e W' ⟨he, hg⟩ => ?_
  subst he
  have hB : Below W.heap.size W W' := hg.below (Nat.le_refl _) (fun _ _ e => e.elim)
  have t1 := Below.trod laidOut (by kernel_rfl) (of_decide_eq_true (by kernel_rfl)) h1 hB hlt1
  have t3 := Below.trod laidOut (by kernel_rfl) (of_decide_eq_true (by kernel_rfl)) h3 hB hlt3
  exact ⟨_, rfl, _, _, _, [], _, [], hW', trodAll_cons_mk (shut_bool Tryz.underlying4 _) trodAll_mk0, (trodAll_cons_mk (shut_int Tryz.underlying3 w0) (trodAll_cons_mk t1 (trodAll_cons_mk (shut_int Tryz.underlying5 w2) (trodAll_cons_mk t3 trodAll_mk0)))), rfl, hB.frame _, fun h => by cases h⟩

theorem over : Rows.walWholeRow.holds Tryz.pinned (OpenSpec.ofChange Rows.walWholeSpec) :=
  OpenClaim.holds_of_wide 3 Tryz.f3 rfl rfl rfl rfl rfl rfl rfl ⟨rfl, rfl, rfl, rfl, rfl⟩ rfl rfl rfl rfl rfl (by kernel_rfl) Tryz.func3 (by kernel_rfl)
    (of_decide_eq_true (by kernel_rfl)) (by unfold Func.isWrapper; first | (rw [if_pos (by decide +kernel)]; kernel_rfl) | (rw [if_neg (by decide +kernel)]; exact ⟨rfl, rfl⟩))
    (fun os started H enc _ => lifted os started H enc)

theorem proved : Rows.WalWholeCardSaid :=
  Claim7.holds_tied_plain_at .later [] [.data] true Rows.walWholeCard.stood.harness false
    over (fun _ h => by cases h) (by kernel_rfl) (fun _ h => by cases h) walWhole_row_tie rfl ⟨rfl, rfl⟩ (by kernel_rfl) rfl
    (fun f fn hf hfn => by
      obtain rfl : f = 3 := Option.some.inj ((show Tryz.prog.funcNamed "sutler/sutlerlaw04.WalWhole" = some 3 by kernel_rfl).symm.trans hf) |>.symm
      obtain rfl : fn = Tryz.f3 := (Option.some.inj (Tryz.func3.symm.trans hfn)).symm
      exact ⟨by kernel_rfl, fun j t ht => by
        rw [Tryz.params3] at ht
        have hm : t ∈ [3, 22, 5, 23] := by simpa using Array.mem_of_getElem? ht
        have hall : ([3, 22, 5, 23].all fun u => !Tryz.prog.wantsStandIn u) = true := by kernel_rfl
        exact (show Tryz.prog.wantsStandIn t = false by simpa using List.all_eq_true.1 hall t hm)⟩)
    (by kernel_rfl)
#print axioms proved

end Go.Proofs.YtflapnbpaodhaaaGreatDoor.walWhole
