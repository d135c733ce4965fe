/-
  disk.Load.
-/
import Derived.Test.YtbmbibepcnpngaaGood
import Derived.Test.YtbmbibepcnpngaaRfL
namespace Go.Proofs.Ytbmbibepcnpngaa.dl
open Go.RowKit Go.Maps

set_option maxRecDepth 100000 in
theorem cut_high_run (w : World) (A : Option Addr) (n c k : Nat) (hk : k ≤ n) :
    (Instr.slice 22 (.slice A n c) (some (.int .i64 (k : Int))) none none).run Try.prog w = .ok (.slice (if c = k then A else A.map (·.add k)) (n - k) (c - k)) w := by
  rw [run_slice_l w 22 A n c Try.underlying22 .i64 k (by omega) (by omega)]
  have hs : (sizeOf (Try.prog.elem 22)).run Try.prog w = .ok 1 w := by kernel_rfl
  rw [hs]
  simp only [Result.andThen, sliced, Int.toNat_natCast, Nat.mul_one]
theorem cut_from (w : World) (B : Nat) (A : Option Addr) (l : List UInt8) (n c j N : Nat) (hr : Rd w B A l) (hn : l.length = n) (hc : n ≤ c) (hN : n = 256 * N) (hj : j < N) :
    ∃ blk off c', (∀ w : World, (Instr.slice 22 (.slice A n c) (some (.int .i64 ((j : Int) * 256))) none none).run Try.prog w = .ok (.slice (some ⟨blk, off, none⟩) (n - 256 * j) c') w) ∧ blk < B ∧ ∀ k b, (rf.sect l j)[k]? = some b → w.cell? ⟨blk, off + k, none⟩ = some (.int .u8 (b.toNat : Int)) := by
  have hne : l ≠ [] := by intro e; subst e; simp at hn; omega
  obtain ⟨blk, off, rfl, hb, hcell⟩ := hr hne
  refine ⟨blk, off + 256 * j, c - 256 * j, fun w => ?_, hb, fun k x hk => ?_⟩
  · have h := cut_high_run w (some ⟨blk, off, none⟩) n c (256 * j) (by omega)
    rw [show ((256 * j : Nat) : Int) = (j : Int) * 256 by omega, if_neg (by omega)] at h
    simpa [add_plain] using h
  · unfold rf.sect at hk
    rw [List.getElem?_take] at hk
    split at hk
    · rw [List.getElem?_drop] at hk
      rw [Nat.add_assoc]
      exact hcell _ x hk
    · cases hk

set_option maxHeartbeats 400000 in
theorem load_odd (w : World) (A : Option Addr) (n cap : Nat) (hn : n % 256 ≠ 0) (hl : n ≤ 140737488351232) :
    Calls Try.prog 11 #[.slice A n cap] w fun e w' => e = .returned (.tuple #[.pointer none, .int .i64 2]) ∧ w = w' := by
  have hne : ((n : Int) % 256 != 0) = true := by rw [bne_iff_ne]; omega
  clear hn
  go_enter Try.func11, Try.ntmps11
  go_wp2_with fail
  go_ret2
  exact ⟨rfl, rfl⟩
set_option maxHeartbeats 400000 in
theorem load_no (w : World) (A : Option Addr) (n cap N : Nat) (hn : n = 256 * N) (hN : N < 1 ∨ 4096 < N) (hl : n ≤ 140737488351232) :
    Calls Try.prog 11 #[.slice A n cap] w fun e w' => e = .returned (.tuple #[.pointer none, .int .i64 2]) ∧ w = w' := by
  have hne : ((n : Int) % 256 != 0) = false := by rw [bne_eq_false_iff_eq]; omega
  have hq : (n : Int) / 256 = (N : Int) := by omega
  have HN := Lib.hid (new_no w (N : Int) (by omega))
  clear hn hN
  go_enter Try.func11, Try.ntmps11
  go_wp2_with fail
  refine HN.out.mono ?_
  rintro e w' ⟨rfl, rfl⟩
  go_wp2_with fail
  go_ret2
  exact ⟨rfl, rfl⟩

/-- The values of an image, so far. -/
def imgV (l : List UInt8) (j : Nat) : Int → Int → List UInt8 := fun s t => if t = 0 ∧ 0 ≤ s ∧ s < j then rf.sect l s.toNat else noughts
theorem imgV_put (l : List UInt8) (j : Nat) : upd (imgV l j) j 0 (rf.sect l j) = imgV l (j + 1) := by
  funext s t
  unfold upd imgV
  by_cases h : s = j ∧ t = 0
  · obtain ⟨rfl, rfl⟩ := h
    rw [if_pos ⟨rfl, rfl⟩, if_pos (by omega)]
    rw [show ((j : Int)).toNat = j by omega]
  · rw [if_neg h]
    by_cases h2 : t = 0 ∧ 0 ≤ s ∧ s < j
    · rw [if_pos h2, if_pos (by omega)]
    · rw [if_neg h2, if_neg (by omega)]

/-- A disk of an image. -/
def LoadGood (w : World) (N : Nat) (l : List UInt8) (e : Ending) (w' : World) : Prop :=
  ∃ pb bv bt, e = .returned (.tuple #[.pointer (some ⟨pb, 0, none⟩), .int .i64 0]) ∧ Good w' pb bv bt N N 0 0 (-1) false (imgV l N) (fun _ => 0) ∧ w.heap.size ≤ pb ∧ w.heap.size ≤ bv ∧ w.heap.size ≤ bt ∧ Fr (fun _ => False) w w'
/-- .. so far. -/
structure LdAt (w wr : World) (pb bv bt N j : Nat) (l : List UInt8) : Prop where
  blk : Blk wr pb N bv bt 0 (-1) false
  sec : SecMap wr bv j (imgV l j)
  turn : TurnMap wr bt 0 (fun _ => 0) 0
  ne : bv ≠ bt
  fr : Fr (fun _ => False) w wr

set_option maxRecDepth 100000 in
set_option maxHeartbeats 2000000 in
theorem load_good (w : World) (B : Nat) (A : Option Addr) (n cap N : Nat) (l : List UInt8) (hr : Rd w B A l) (hln : l.length = n) (hc : n ≤ cap) (hn : n = 256 * N) (h1 : 1 ≤ N) (h2 : N ≤ 4096) (hB : B ≤ w.heap.size) :
    Calls Try.prog 11 #[.slice A n cap] w (LoadGood w N l) := by
  have hne : ((n : Int) % 256 != 0) = false := by rw [bne_eq_false_iff_eq]; omega
  have hq : (n : Int) / 256 = (N : Int) := by omega
  have HN := Lib.hid (new_good w N h1 h2)
  have HSE := Lib.hid (fun j (hj : j < N) => rf.sect_length (l := l) (j := j) (N := N) (by rw [hln, hn]) hj)
  have HCUT := Lib.hid (fun (wr : World) (hF : Fr (fun _ => False) w wr) j (hj : j < N) => cut_from wr B A l n cap j N (hr.still hF hB) hln hc hn hj)
  have HB := Lib.hid hB
  have HNN := Lib.hid hn
  clear hr hln hc hn hB
  go_enter Try.func11, Try.ntmps11
  go_wp2_with fail
  refine HN.out.mono ?_
  rintro e w1 ⟨pb, bv, bt, rfl, hg, b1, b2, b3, hF⟩
  obtain ⟨nv, nt, hd, hnv, hnt⟩ := hg.disk
  have c0 := hd.blk.c0
  have H0 := Lib.hid (show LdAt w w1 pb bv bt N 0 l from ⟨hd.blk, (hd.sec.mono (by omega)).congr (fun s t => by unfold imgV; rw [if_neg (by omega)]), hd.turn.mono (by omega), hd.ne, hF⟩)
  have HBS := Lib.hid (⟨b1, b2, b3⟩ : _ ∧ _ ∧ _)
  have HNP := Lib.hid (show pb ≠ bv ∧ bv ≠ pb ∧ bt ≠ bv from ⟨Ne.symm (hd.sec.ne_blk hd.blk), hd.sec.ne_blk hd.blk, Ne.symm hd.ne⟩)
  clear hg b1 b2 b3 hF hd hne hq
  go_wp2_with fail
  clear c0
  go_loopw [6, 25] (fun _ i wr => ∃ j : Nat, j ≤ N ∧ i = .int .i64 j ∧ Hid (LdAt w wr pb bv bt N j l)) (fun _ i _ => N - (intOf i).toNat)
  case atStart => exact ⟨0, Nat.zero_le _, rfl, H0⟩
  case round =>
    obtain ⟨j, hj, rfl, HP⟩ := hrel
    clear H0
    by_cases hlt : j < N
    · obtain ⟨blk, off, c', hcut, hbl, hcell⟩ := HCUT.out wr HP.out.fr j hlt
      have hj0 : (0 : Int) ≤ (j : Int) := by omega
      have hj1 : (j : Int) < N := by omega
      have m1 : IntKind.i64.wrap ((j : Int) * 256) = (j : Int) * 256 := IntWalk.i64_in _ ⟨by omega, by omega⟩
      have HX := Lib.hid (HSE.out j hlt)
      have hblk : blk < wr.heap.size := Nat.lt_of_lt_of_le hbl (Nat.le_trans HB.out HP.out.fr.size)
      have HVO := Lib.hid (valueOf_any wr.drew blk off (n - 256 * j) c' (rf.sect l j) HX.out (by have := HNN.out; omega) hblk (fun k b hk => hcell k b hk))
      have HK := Lib.hid (fun (w' : World) (hF : Fr (fun i => i = bv) wr w') => (HP.out.blk.kept hF HNP.out.1).c1)
      clear hbl hcell hblk
      go_wp2_with fail
      go_region_held3 (fun w' => w'.cell? ⟨pb, 1, none⟩ = some (.map (some bv)))
        (first
          | exact HK.out _ (Fr.refl _ _).drew
          | exact HK.out _ HG5.out
          | exact HK.out _ HG6.out)
        (first
          | (go_at_call 39; refine (HVO.out).mono ?_; rintro e w5 ⟨rfl, hb5⟩
             have hF5 : Fr (fun _ => False) wr w5 := ⟨hb5.os, hb5.tape, hb5.output, hb5.size, fun i hi _ => hb5.block i hi⟩
             have HG5 : Hid (Fr (· = bv) wr w5) := hF5.mono (fun _ _ e => e.elim)
             have HV5 := Lib.hid (HP.out.sec.kept hF5 id)
             have HT5 := Lib.hid (⟨HP.out.blk.kept hF5 id, HP.out.turn.kept hF5 id, HP.out.fr.trans hF5 (fun _ _ e => e)⟩ : _ ∧ _ ∧ _)
             clear hb5 hF5
             obtain ⟨w6, hrun6, hv6, hm6⟩ := HV5.out.store (s := (j : Int)) (t := 0) (by constructor <;> omega) I64.zero HX.out (by unfold maxLen; omega)
             unfold keyV at hrun6
             rw [imgV_put] at hv6
             have hF6 := mapTurned_fr hm6
             have HN6 := Lib.hid (show LdAt w w6 pb bv bt N (j + 1) l from ⟨HT5.out.1.kept hF6 HNP.out.1, hv6, HT5.out.2.1.kept hF6 HNP.out.2.2, HP.out.ne, HT5.out.2.2.trans hF6 (fun i hi e => by have := HBS.out.2.1; omega)⟩)
             have HG6 := Lib.hid (HG5.out.ofTurned hm6 (Or.inl rfl))
             clear hv6 hm6 hF6))
      all_goals
        clear hrun6 m1
        go_wp2
        go_roundw
        case rel => exact ⟨j + 1, by omega, by go_num, HN6⟩
        case measure => simp [intOf]; omega
    · obtain rfl : j = N := by omega
      have HE := Lib.hid (show Good wr pb bv bt j j 0 0 (-1) false (imgV l j) (fun _ => 0) from ⟨⟨j, 0, ⟨HP.out.blk, HP.out.sec, HP.out.turn, HP.out.ne⟩, by omega, by omega⟩, h1, h2, by omega, fun _ _ => by omega, fun _ _ _ => rfl, by omega, by omega, by omega, by omega⟩)
      go_wp2_with fail
      go_ret2
      exact ⟨pb, bv, bt, rfl, HE.out, HBS.out.1, HBS.out.2.1, HBS.out.2.2, HP.out.fr⟩
end Go.Proofs.Ytbmbibepcnpngaa.dl
