/-
  Texts that belong together, joined: Write Settle Sync New Read Same Gather Keys Crash Good.
-/
import Derived.Test.YtflapnbpaodhaaaGreatDoorJA
import Derived.Deep.RegionHeld3
import Derived.Deep.LoopGhost
import Derived.Outline
import Derived.Deep.QuietTactic
import Derived.BigQuiet
import Derived.Test.YtflapnbpaodhaaaGreatDoorShelf

/-
  Write.
-/


namespace Go.Proofs.YtflapnbpaodhaaaGreatDoor
set_option maxRecDepth 100000
open Go.RowKit Go.Maps

/-- A write that is refused: no such sector, or not a sector's bytes. -/
theorem write_arg (w : World) {pb : Nat} {N : Int} {bv bt : Nat} {ops lim : Int} {dk : Bool} (hb : Blk w pb N bv bt ops lim dk) (hN : 0 < N) (at_ : Int) (p : Option Addr) (len cap : Nat) (h : at_ < 0 ∨ N ≤ at_ ∨ len ≠ 256) :
    Calls Tryz.prog 25 #[.pointer (some ⟨pb, 0, none⟩), .int .i64 at_, .slice p len cap] w fun e w' => e = .returned (.int .i64 2) ∧ w = w' := by
  have c0 := hb.c0
  have HM := Lib.hid (made_yes pb N w c0 hN)
  have HH := Lib.hid (has_any pb N at_ w c0)
  by_cases h1 : 0 ≤ at_ ∧ at_ < N
  · have hh : (decide (0 ≤ at_) && decide (at_ < N)) = true := by simp [h1]
    rw [hh] at HH
    have hl : ((len : Int) != 256) = true := by rw [bne_iff_ne]; omega
    clear hb hh h1 h
    go_enter Tryz.func25, Tryz.ntmps25
    go_wp2_with (first
      | (go_at_call 29; refine (HM.out).mono ?_; rintro e w' ⟨rfl, rfl⟩)
      | (go_at_call 30; refine (HH.out).mono ?_; rintro e w' ⟨rfl, rfl⟩))
    go_ret
    exact ⟨rfl, rfl⟩
  · have hh : (decide (0 ≤ at_) && decide (at_ < N)) = false := by simp; omega
    rw [hh] at HH
    clear hb hh h1 h
    go_enter Tryz.func25, Tryz.ntmps25
    go_wp2_with (first
      | (go_at_call 29; refine (HM.out).mono ?_; rintro e w' ⟨rfl, rfl⟩)
      | (go_at_call 30; refine (HH.out).mono ?_; rintro e w' ⟨rfl, rfl⟩))
    go_ret
    exact ⟨rfl, rfl⟩

/-- A write when the power is gone, or goes. -/
theorem write_power (w : World) {pb : Nat} {N : Int} {bv bt : Nat} {ops lim : Int} {dk : Bool} (hb : Blk w pb N bv bt ops lim dk) (hN : 0 < N) (at_ : Int) (p : Option Addr) (cap : Nat) (h0 : 0 ≤ at_) (h1 : at_ < N) (h : lim = 0 ∨ dk = true) :
    Calls Tryz.prog 25 #[.pointer (some ⟨pb, 0, none⟩), .int .i64 at_, .slice p 256 cap] w fun e w' => e = .returned (.int .i64 10) ∧ Blk w' pb N bv bt ops lim true ∧ Fr (· = pb) w w' ∧ w'.heap.size = w.heap.size := by
  have c0 := hb.c0
  have HM := Lib.hid (made_yes pb N w c0 hN)
  have HH := Lib.hid (has_any pb N at_ w c0)
  have hh : (decide (0 ≤ at_) && decide (at_ < N)) = true := by simp [h0, h1]
  rw [hh] at HH
  have HT := Lib.hid (take_no w hb h)
  clear hb hh h
  go_enter Tryz.func25, Tryz.ntmps25
  go_wp2_with (first
    | (go_at_call 29; refine (HM.out).mono ?_; rintro e w' ⟨rfl, rfl⟩)
    | (go_at_call 30; refine (HH.out).mono ?_; rintro e w' ⟨rfl, rfl⟩)
    | (go_at_call 47; refine (HT.out).mono ?_; rintro e w2 ⟨rfl, hb2, hF2, hs2⟩; have HB2 := Lib.hid hb2; have HF2 := Lib.hid hF2; have HS2 := Lib.hid hs2; clear hb2 hF2 hs2))
  go_ret
  exact ⟨rfl, HB2.out, HF2.out, HS2.out⟩


theorem upd_same (T : Int → Int) (s x : Int) : updT T s x s = x := if_pos rfl

set_option maxRecDepth 100000 in
set_option maxHeartbeats 1000000 in
theorem write_ok (w : World) {pb : Nat} {N : Int} {bv bt nv nt c : Nat} {ops lim : Int} {V : Int → Int → List UInt8} {T : Int → Int} (hb : Blk w pb N bv bt ops lim false) (hv : SecMap w bv nv V) (ht : TurnMap w bt nt T c) (hN : 0 < N) (hne : bv ≠ bt)
    (at_ : Int) (h0 : 0 ≤ at_) (h1 : at_ < N) (hNi : N ≤ 9223372036854775807) (hlim : lim ≠ 0) (hlo : -1 ≤ lim) (hhi : lim ≤ 9223372036854775807) (hop0 : 0 ≤ ops) (hop : ops ≤ 1000000000000) (hnv : nv < 1000000000000) (hnt : nt < 1000000000000) (hT0 : 0 ≤ T at_) (hT1 : T at_ ≤ 1000000000000)
    (blk off cap : Nat) (l : List UInt8) (hl : l.length = 256) (hblk : blk < w.heap.size) (hsrc : ∀ j b, l[j]? = some b → w.cell? ⟨blk, off + j, none⟩ = some (.int .u8 (b.toNat : Int))) (hbp : blk ≠ pb) (hbv : blk ≠ bv) (hbt : blk ≠ bt) :
    Calls Tryz.prog 25 #[.pointer (some ⟨pb, 0, none⟩), .int .i64 at_, .slice (some ⟨blk, off, none⟩) 256 cap] w fun e w' => e = .returned (.int .i64 0) ∧ Blk w' pb N bv bt (ops + 1) (lessOne lim) false ∧
      SecMap w' bv (nv + 1) (upd V at_ (T at_ + 1) l) ∧ TurnMap w' bt (nt + 1) (updT T at_ (T at_ + 1)) (cntUp (T at_) c) ∧ Fr (fun i => i = pb ∨ i = bv ∨ i = bt) w w' := by
  have c0 := hb.c0
  have HM := Lib.hid (made_yes pb N w c0 hN)
  have HH := Lib.hid (has_any pb N at_ w c0)
  have hh : (decide (0 ≤ at_) && decide (at_ < N)) = true := by simp [h0, h1]
  rw [hh] at HH
  have HT := Lib.hid (take_yes w hb hlim hlo hhi hop0 hop)
  have hs : I64 at_ := by constructor <;> omega
  have hx : I64 (T at_ + 1) := by constructor <;> omega
  have np := ht.ne_blk hb
  have nv' := hv.ne_blk hb
  have HV := Lib.hid hv
  have HTT := Lib.hid ht
  have HNE := Lib.hid (show pb ≠ bt ∧ pb ≠ bv ∧ bv ≠ bt ∧ bt ≠ pb ∧ bv ≠ pb from ⟨Ne.symm np, Ne.symm nv', hne, np, nv'⟩)
  have HSRC := Lib.hid hsrc
  have HBB := Lib.hid (show blk < w.heap.size ∧ blk ≠ pb ∧ blk ≠ bv ∧ blk ≠ bt from ⟨hblk, hbp, hbv, hbt⟩)
  have HL := Lib.hid hl
  have hp0 : 0 < T at_ + 1 := by omega
  clear hh hb hop0 hop hlim hlo hhi np nv' hne hv ht hsrc hblk hbp hbv hbt hl
  have hnt' : nt < maxLen := by unfold maxLen; omega
  have hnv' : nv < maxLen := by unfold maxLen; omega
  have HNV := Lib.hid hnv'
  have HNT := Lib.hid hnt'
  clear hnt' hnv'
  go_enter Tryz.func25, Tryz.ntmps25
  go_wp2_with (first
    | (go_at_call 29; refine (HM.out).mono ?_; rintro e w' ⟨rfl, rfl⟩)
    | (go_at_call 30; refine (HH.out).mono ?_; rintro e w' ⟨rfl, rfl⟩)
    | (go_at_call 47; refine (HT.out).mono ?_; rintro e w2 ⟨rfl, hb2, hF2, hs2⟩; have HB2 := Lib.hid hb2; have HF2 := Lib.hid hF2; have HT2 := Lib.hid (HTT.out.kept hF2 HNE.out.2.2.2.1); have HV2 := Lib.hid (HV.out.kept hF2 HNE.out.2.2.2.2); have c2 := hb2.c2; clear hb2 hF2 hs2)
    | ((with_reducible refine wpList_lookTurn ?_ (.tmp 28) (.tmp 29) ?_ bt nt T c at_ HT2.out hs ?_ ?_ ?_); (exact rfl); (exact rfl); (exact rfl); (exact rfl))
    | ((with_reducible refine wpList_storeTurn ?_ (.tmp 28) (.tmp 29) (.tmp 31) ?_ bt nt T c at_ (T at_ + 1) HT2.out hs hx hp0 HNT.out ?_ ?_ ?_ ?_); (exact rfl); (exact rfl); (exact rfl); (exact rfl); (exact rfl); intro w3 ht3 hm3;
        have hF3 := mapTurned_fr hm3; have HT3 := Lib.hid ht3; have HB3 := Lib.hid (HB2.out.kept hF3 HNE.out.1); have HV3 := Lib.hid (HV2.out.kept hF3 HNE.out.2.2.1); have HF3 := Lib.hid hF3; clear c2 hm3 hF3 ht3))
  go_frame
  have hk : ∀ w', Fr (· = bv) w3 w' → w'.cell? ⟨pb, 1, none⟩ = some (.map (some bv)) ∧ w'.cell? ⟨pb, 2, none⟩ = some (.map (some bt)) ∧ (Instr.lookup 64 (.map (some bt)) (.int .i64 at_) false).run Tryz.prog w' = .ok (.int .i64 (T at_ + 1)) w' := fun w' hF =>
    ⟨(HB3.out.kept hF HNE.out.2.1).c1, (HB3.out.kept hF HNE.out.2.1).c2, by have := ((HT3.out.kept hF (Ne.symm HNE.out.2.2.1)).look hs).1; rw [upd_same] at this; exact this⟩
  have HK := Lib.hid hk
  have HVO : Hid (Calls Tryz.prog 48 #[.slice (some ⟨blk, off, none⟩) 256 cap] w3.drew fun e w' => e = .returned (secV l) ∧ Below w3.drew.heap.size w3.drew w') := by
    have hF : Fr (fun i => i = pb ∨ i = bt) w w3 := (HF2.out.mono (S := fun i => i = pb ∨ i = bt) (fun i _ e => Or.inl e)).trans HF3.out (fun i _ e => Or.inr e)
    have hbk := hF.block blk HBB.out.1 (fun e => e.elim HBB.out.2.1 HBB.out.2.2.2)
    exact valueOf_any w3.drew blk off 256 cap l HL.out (Nat.le_refl _) (Nat.lt_of_lt_of_le HBB.out.1 hF.size) (fun j b hj => (World.cell?_of_block (w := w) (w' := w3.drew) hbk).trans (HSRC.out j b hj))
  have HF5 : Hid (∀ w5, Below w3.drew.heap.size w3.drew w5 → Fr (fun _ => False) w3 w5) := fun w5 hB =>
    ⟨hB.os, hB.tape, hB.output, hB.size, fun i hi _ => hB.block i hi⟩
  clear hk
  go_region_held3 (fun w' => w'.cell? ⟨pb, 1, none⟩ = some (.map (some bv)) ∧ w'.cell? ⟨pb, 2, none⟩ = some (.map (some bt)) ∧ (Instr.lookup 64 (.map (some bt)) (.int .i64 at_) false).run Tryz.prog w' = .ok (.int .i64 (T at_ + 1)) w')
    (first
      | exact HK.out _ (Fr.refl _ _).drew
      | exact HK.out _ HG5.out
      | exact HK.out _ HG6.out)
    (first
      | (go_at_call 48; refine (HVO.out).mono ?_; rintro e w5 ⟨rfl, hb5⟩; have HG5 : Hid (Fr (· = bv) w3 w5) := (HF5.out w5 hb5).mono (fun _ _ e => e.elim); have HV5 := Lib.hid (HV3.out.kept (HF5.out w5 hb5) id); clear hb5
         obtain ⟨w6, hrun6, hv6, hm6⟩ := HV5.out.store hs hx HL.out HNV.out
         unfold keyV at hrun6
         have HV6 := Lib.hid hv6
         have HG6 := Lib.hid (HG5.out.ofTurned hm6 (Or.inl rfl))
         clear hv6 hm6))
  all_goals
    have hfr : Fr (fun i => i = pb ∨ i = bv ∨ i = bt) w w6 := ((HF2.out.mono (S := fun i => i = pb ∨ i = bv ∨ i = bt) (fun i _ e => Or.inl e)).trans HF3.out (fun i _ e => Or.inr (Or.inr e))).trans HG6.out (fun i _ e => Or.inr (Or.inl e))
    have HFR := Lib.hid hfr
    clear hfr hrun6
    go_wp2
    go_ret
    exact ⟨rfl, HB3.out.kept HG6.out HNE.out.2.1, HV6.out, HT3.out.kept HG6.out (Ne.symm HNE.out.2.2.1), HFR.out⟩

end Go.Proofs.YtflapnbpaodhaaaGreatDoor

/-
  settle.
-/



namespace Go.Proofs.YtflapnbpaodhaaaGreatDoor
set_option maxRecDepth 100000
open Go.RowKit Go.Maps

def dropV (V : Int → Int → List UInt8) (s k : Int) : Int → Int → List UInt8 := fun s' t' => if s' = s ∧ 1 ≤ t' ∧ t' ≤ k then noughts else V s' t'
theorem dropV_zero (V : Int → Int → List UInt8) (s : Int) : ∀ s' t', V s' t' = dropV V s 0 s' t' := by
  intro s' t'
  unfold dropV
  rw [if_neg (by omega)]
theorem dropV_succ (V : Int → Int → List UInt8) (s k : Int) (hk : 0 ≤ k) : ∀ s' t', upd (dropV V s k) s (k + 1) noughts s' t' = dropV V s (k + 1) s' t' := by
  intro s' t'
  unfold upd dropV
  by_cases h : s' = s ∧ t' = k + 1
  · rw [if_pos h, if_pos (by omega)]
  · rw [if_neg h]
    by_cases h2 : s' = s ∧ 1 ≤ t' ∧ t' ≤ k
    · rw [if_pos h2, if_pos (by omega)]
    · rw [if_neg h2, if_neg (by omega)]
def settleV (V : Int → Int → List UInt8) (s turn k : Int) : Int → Int → List UInt8 := upd (dropV V s k) s 0 (V s turn)

/-- How the loop stands when k of the values have gone. -/
structure SetAt (w : World) (g bv nv : Nat) (V : Int → Int → List UInt8) (s turn k : Int) (wr : World) : Prop where
  map : SecMap wr bv nv (dropV V s k)
  fr : Fr (· = bv) w wr
  own : wr.heap[g]? = some (.cells (secC (V s turn)) 68 (0, 0))

set_option maxRecDepth 100000 in
set_option maxHeartbeats 1000000 in
theorem settle_any (w : World) {pb : Nat} {N : Int} {bv bt nv nt c : Nat} {ops lim : Int} {dk : Bool} {V : Int → Int → List UInt8} {T : Int → Int} (hb : Blk w pb N bv bt ops lim dk) (hv : SecMap w bv nv V) (ht : TurnMap w bt nt T c) (hne : bv ≠ bt)
    (s turn : Int) (hs : I64 s) (hturn : I64 turn) (hT0 : 0 ≤ T s) (hT1 : T s ≤ 1000000000000) (hnv : nv < 1000000000000) :
    Calls Tryz.prog 40 #[.pointer (some ⟨pb, 0, none⟩), .int .i64 s, .int .i64 turn] w fun e w' => e = .returned (.tuple #[]) ∧ SecMap w' bv (nv + 1) (settleV V s turn (T s)) ∧ Fr (· = bv) w w' := by
  have np := ht.ne_blk hb
  have nv' := hv.ne_blk hb
  have hvlt := hv.lt
  have c1 := hb.c1
  have hl := (hv.look hs hturn).2
  have HL := Lib.hid hl
  have HV := Lib.hid hv
  have hnv' : nv < maxLen := by unfold maxLen; omega
  have HNV := Lib.hid hnv'
  have HNE := Lib.hid (show bv ≠ bt ∧ bt ≠ pb ∧ bv ≠ pb from ⟨hne, np, nv'⟩)
  -- the world as the loop meets it: the block's and the turns' facts
  have hk : ∀ w', Fr (· = bv) w w' → w'.cell? ⟨pb, 1, none⟩ = some (.map (some bv)) ∧ w'.cell? ⟨pb, 2, none⟩ = some (.map (some bt)) ∧ TurnMap w' bt nt T c := fun w' hF =>
    ⟨(hb.kept hF (Ne.symm nv')).c1, (hb.kept hF (Ne.symm nv')).c2, ht.kept hF (Ne.symm hne)⟩
  have HK := Lib.hid hk
  have HA : Hid ((w.alloc (.cells (secC noughts) 68)).heap[w.heap.size]? = some (.cells (secC noughts) 68 (0, 0))) := heap_alloc_new _ _
  have HW1 : Hid (∀ w1 : World, w1.heap[w.heap.size]? = some (.cells (secC (V s turn)) 68 (0, 0)) → Fr (· = w.heap.size) (w.alloc (.cells (secC noughts) 68)) w1 → SetAt w w.heap.size bv nv V s turn 0 w1 ∧ TurnMap w1 bt nt T c ∧ w1.cell? ⟨pb, 2, none⟩ = some (.map (some bt))) := fun w1 h1 hF1 => by
    have hA : Fr (· = w.heap.size) w w1 := ((Fr.refl (· = w.heap.size) w).alloc _).trans hF1 (fun _ _ e => e)
    have hF1' : Fr (· = bv) w w1 := hA.mono (fun i hi e => by omega)
    exact ⟨⟨(hv.kept hA (fun e => by omega)).congr (dropV_zero V s), hF1', h1⟩, (hk w1 hF1').2.2, (hk w1 hF1').2.1⟩
  clear hk hl hnv' hne np nv' hv ht hb
  obtain ⟨m, hm⟩ : ∃ m : Nat, T s = m := ⟨(T s).toNat, by omega⟩
  have hmb : (m : Int) ≤ 1000000000000 := by omega
  go_enter Tryz.func40, Tryz.ntmps40
  go_wp2_with (first
    | ((with_reducible refine wpList_lookSec ?_ (.tmp 11) (.tmp 14) ?_ bv nv V s turn HV.out hs hturn ?_ ?_ ?_); (exact rfl); (exact rfl); (exact rfl); (exact rfl); intro _)
    | ((with_reducible refine wpList_allocArr ?_ ?_ ?_); (exact rfl); (exact rfl))
    | ((with_reducible refine wpList_storeArr ?_ (.tmp 6) (.tmp 15) ?_ w.heap.size (V s turn) noughts HL.out noughts_length ?_ ?_ HA.out ?_); (exact rfl); (exact rfl); (exact rfl); (exact rfl); intro w1 h1 hF1 hs1;
        obtain ⟨hS1, hT1', c2⟩ := HW1.out w1 h1 hF1; have HS1 := Lib.hid hS1; have HT1 := Lib.hid hT1'; clear h1 hF1 hs1 hS1 hT1')
    | ((with_reducible refine wpList_lookTurn ?_ (.tmp 19) (.tmp 20) ?_ bt nt T c s HT1.out hs ?_ ?_ ?_); (exact rfl); (exact rfl); (exact rfl); (exact rfl)))
  have HM' := Lib.hid hm
  clear hm c1 c2
  go_loopw [22] (fun k wr => ∃ j : Nat, j ≤ m ∧ k = .int .i64 j ∧ Hid (SetAt w w.heap.size bv nv V s turn j wr)) (fun k _ => m - (intOf k).toNat)
  case atStart => exact ⟨0, Nat.zero_le _, rfl, HS1⟩
  case round =>
    obtain ⟨j, hj, rfl, HR⟩ := hrel
    have hk1 := HK.out wr HR.out.fr
    have c1 := hk1.1
    clear hk1
    by_cases hlt : j < m
    · have hj1 : I64 ((j : Int) + 1) := by constructor <;> omega
      go_wp2_with (first
        | ((with_reducible refine wpList_dropSec ?_ (.tmp 28) (.tmp 32) ?_ bv nv (dropV V s j) s (j + 1) HR.out.map hs hj1 ?_ ?_ ?_); (exact rfl); (exact rfl); (exact rfl); (exact rfl); intro w5 hm5 ht5; have HM5 := Lib.hid hm5; have HT5 := Lib.hid ht5; clear hm5 ht5))
      go_roundw
      case rel => exact ⟨j + 1, by omega, by go_num, (show SetAt _ _ _ _ _ _ _ _ _ from ⟨HM5.out.congr (fun s' t' => (dropV_succ V s j (by omega) s' t').trans (by rw [Int.natCast_succ])), HR.out.fr.ofTurned HT5.out (Or.inl rfl), (mapTurned_fr HT5.out).block _ (by have := HR.out.fr.size; exact Nat.lt_of_lt_of_le (Array.getElem?_eq_some_iff.1 HR.out.own).1 (Nat.le_refl _)) (fun e => by omega) |>.trans HR.out.own⟩)⟩
      case measure => simp [intOf]; omega
    · have hjm : j = m := by omega
      subst hjm
      have hF2 : Fr (· = bv) w wr.drew := HR.out.fr.drew
      obtain ⟨w6, hw6⟩ : ∃ w6, w6 = wr.drew := ⟨_, rfl⟩
      rw [← hw6] at hF2
      have HW6 := Lib.hid hw6
      have c1' := (HK.out w6 hF2).1
      have HO6 : Hid (w6.heap[w.heap.size]? = some (.cells (secC (V s turn)) 68 (0, 0))) := by rw [hw6]; exact HR.out.own
      have HV6 : Hid (SecMap w6 bv nv (dropV V s j)) := by rw [hw6]; exact HR.out.map
      have HF6 := Lib.hid hF2
      clear c1 hw6 hF2
      go_wp2_with fail
      refine region_tail 7 (by kernel_rfl) (by kernel_rfl) w6 HW6.out ?_
      simp only [List.take_succ_cons, List.take_zero, List.drop_succ_cons, List.drop_zero]
      repeat (first
        | ((with_reducible refine still_loadArr ?_ (.tmp 6) ?_ w.heap.size (V s turn) HL.out ?_ HO6.out ?_); (exact rfl); (exact rfl); (exact rfl))
        | still_step)
      refine wpStill_nil ?_
      go_wp2_with (first
        | ((with_reducible refine wpList_storeSec ?_ (.tmp 37) (.tmp 39) (.tmp 40) ?_ bv nv (dropV V s j) s 0 (V s turn) HV6.out hs I64.zero HL.out HNV.out ?_ ?_ ?_ ?_); (exact rfl); (exact rfl); (exact rfl); (exact rfl); (exact rfl); intro w7 hm7 ht7; have HM7 := Lib.hid hm7; have HT7 := Lib.hid ht7; clear hm7 ht7))
      go_end0
      exact ⟨rfl, by rw [HM'.out]; exact HM7.out, HF6.out.ofTurned HT7.out (Or.inl rfl)⟩

end Go.Proofs.YtflapnbpaodhaaaGreatDoor

/-
  Sync.
-/

namespace Go.Proofs.YtflapnbpaodhaaaGreatDoor
set_option maxRecDepth 100000
open Go.RowKit Go.Maps

theorem Fr.grownBy {w w' : World} {b : Nat} (h : Fr (· = b) w w') : w.grownBy w' (some b) :=
  ⟨h.os, h.tape, h.output, h.size, fun i hi hne => h.block i hi (fun e => hne (by rw [e]))⟩

theorem TurnD.zero {D : DU} {T : Int → Int} {c : Nat} (h : TurnD D T c) {s : Int} (hs : I64 s) (hn : Maps.has D (.int .i64 s) = false) : T s = 0 := by
  have h1 := h.at_ s hs
  rw [atKey_of_not_has hn] at h1
  simp only [DataW.lit.injEq, Lit.int.injEq, true_and] at h1
  exact h1.symm

/-- How a pass over the turns stands: 'left' tells which sectors are still to come. -/
structure PassAt (w : World) (bv nv c : Nat) (V : Int → Int → List UInt8) (T : Int → Int) (left : Lit → Bool) (cnt n : Nat) (V' : Int → Int → List UInt8) (wr : World) : Prop where
  fr : Fr (· = bv) w wr
  map : SecMap wr bv n V'
  le : n + cnt ≤ nv + c
  val : ∀ s, I64 s → (left (.int .i64 s) = true → ∀ t, V' s t = V s t) ∧ (left (.int .i64 s) = false → V' s 0 = V s (T s))

theorem settleV_other {V : Int → Int → List UInt8} {s turn k s' : Int} (h : s' ≠ s) (t' : Int) : settleV V s turn k s' t' = V s' t' := by
  unfold settleV upd dropV
  rw [if_neg (fun e => h e.1), if_neg (fun e => h e.1)]
theorem settleV_same {V : Int → Int → List UInt8} {s turn k : Int} : settleV V s turn k s 0 = V s turn := by
  unfold settleV upd
  rw [if_pos ⟨rfl, rfl⟩]

theorem sameKey_int {s x : Int} (h : s ≠ x) : (Lit.int .i64 s).sameKey (.int .i64 x) = false := sameKey_ne (by intro e; cases e; exact h rfl)
theorem sameKey_int_self (x : Int) (hx : I64 x) : (Lit.int .i64 x).sameKey (.int .i64 x) = true := WideAt.sameKey_self (keyedInt.key (keyOf_int_mk Tryz.underlying3 hx.wf))

theorem PassAt.start {w : World} {bv nv c : Nat} {V : Int → Int → List UInt8} {T : Int → Int} {D : DU} (hv : SecMap w bv nv V) (hD : TurnD D T c) {w' : World} (hF : Fr (fun _ => False) w w') : PassAt w bv nv c V T (Maps.has D) (Maps.size D) nv V w' :=
  ⟨hF.mono (fun _ _ e => e.elim), hv.kept hF id, by rw [hD.size]; exact Nat.le_refl _, fun s hs => ⟨fun _ _ => rfl, fun hn => by rw [hD.zero hs hn]⟩⟩

theorem PassAt.step {w : World} {bv nv c : Nat} {V V' : Int → Int → List UInt8} {T : Int → Int} {left : Lit → Bool} {cnt cnt1 n : Nat} {wr w1 : World} (h : PassAt w bv nv c V T left cnt n V' wr) {x : Int} (hl : left (.int .i64 x) = true) (hlt : cnt1 < cnt)
    (h1 : SecMap w1 bv (n + 1) (settleV V' x (T x) (T x))) (hF : Fr (· = bv) w w1) : PassAt w bv nv c V T (fun z => left z && !z.sameKey (.int .i64 x)) cnt1 (n + 1) (settleV V' x (T x) (T x)) w1 := by
  refine ⟨hF, h1, by have := h.le; omega, fun s hs => ?_⟩
  by_cases he : s = x
  · subst he
    refine ⟨fun e => ?_, fun _ => ?_⟩
    · rw [sameKey_int_self s hs] at e
      simp at e
    · rw [settleV_same]
      exact (h.val s hs).1 hl (T s)
  · rw [sameKey_int he]
    refine ⟨fun e t => ?_, fun e => ?_⟩
    · rw [settleV_other he]
      exact (h.val s hs).1 (by simpa using e) t
    · rw [settleV_other he]
      exact (h.val s hs).2 (by simpa using e)

/-- What Sync leaves. -/
def SyncPost (w : World) (pb : Nat) (N : Int) (bv : Nat) (ops lim : Int) (n : Nat) (V : Int → Int → List UInt8) (T : Int → Int) (w' : World) : Prop :=
  ∃ bt' V', Blk w' pb N bv bt' ops lim false ∧ w.heap.size ≤ bt' ∧ SecMap w' bv n V' ∧ (∀ s, I64 s → V' s 0 = V s (T s)) ∧ TurnMap w' bt' 0 (fun _ => 0) 0 ∧ Fr (fun i => i = pb ∨ i = bv) w w'

set_option maxHeartbeats 1000000 in
/-- Sync when the power is gone, or goes. -/
theorem sync_power (w : World) {pb : Nat} {N : Int} {bv bt : Nat} {ops lim : Int} {dk : Bool} (hb : Blk w pb N bv bt ops lim dk) (hN : 0 < N) (h : lim = 0 ∨ dk = true) :
    Calls Tryz.prog 27 #[.pointer (some ⟨pb, 0, none⟩)] w fun e w' => e = .returned (.int .i64 10) ∧ Blk w' pb N bv bt ops lim true ∧ Fr (· = pb) w w' ∧ w'.heap.size = w.heap.size := by
  have c0 := hb.c0
  have HM := Lib.hid (made_yes pb N w c0 hN)
  have HT := Lib.hid (take_no w hb h)
  clear hb h
  go_enter Tryz.func27, Tryz.ntmps27
  go_wp2_with (first
    | (go_at_call 29; refine (HM.out).mono ?_; rintro e w' ⟨rfl, rfl⟩)
    | (go_at_call 47; refine (HT.out).mono ?_; rintro e w2 ⟨rfl, hb2, hF2, hs2⟩; have HB2 := Lib.hid hb2; have HF2 := Lib.hid hF2; have HS2 := Lib.hid hs2; clear hb2 hF2 hs2))
  go_ret
  exact ⟨rfl, HB2.out, HF2.out, HS2.out⟩

theorem sync_end {w wr : World} {pb : Nat} {N : Int} {bv bt n m : Nat} {ops lim : Int} {V V' : Int → Int → List UInt8} {T : Int → Int} (hb : Blk wr pb N bv bt ops lim false) (hm : SecMap wr bv n V') (hn : n ≤ m) (hV : ∀ s, I64 s → V' s 0 = V s (T s)) (hF : Fr (fun i => i = pb ∨ i = bv) w wr) (hne : bv ≠ pb) :
    SyncPost w pb N bv ops lim m V T ((wr.alloc (.map #[] 0)).setCell ⟨pb, 2, none⟩ (.map (some wr.heap.size))) := by
  have hA : Fr (fun _ => False) wr (wr.alloc (.map #[] 0)) := (Fr.refl _ wr).alloc _
  have hb1 := hb.kept hA id
  have hS : Fr (· = pb) (wr.alloc (.map #[] 0)) ((wr.alloc (.map #[] 0)).setCell ⟨pb, 2, none⟩ (.map (some wr.heap.size))) := (Fr.refl (· = pb) _).setCell (p := ⟨pb, 2, none⟩) (Or.inl rfl) _
  refine ⟨wr.heap.size, V', hb1.set2 _, hF.size, ((hm.kept hA id).kept hS hne).mono hn, hV, (TurnMap.made wr).kept hS (fun e => ?_), ?_⟩
  · have := hb.lt
    omega
  · exact (hF.trans hA (fun _ _ e => e.elim)).trans hS (fun i _ e => Or.inl e)

set_option maxRecDepth 100000 in
set_option maxHeartbeats 1000000 in
theorem sync_ok (w : World) {pb : Nat} {N : Int} {bv bt nv nt c : Nat} {ops lim : Int} {V : Int → Int → List UInt8} {T : Int → Int} (hb : Blk w pb N bv bt ops lim false) (hv : SecMap w bv nv V) (ht : TurnMap w bt nt T c) (hN : 0 < N) (hne : bv ≠ bt)
    (hlim : lim ≠ 0) (hlo : -1 ≤ lim) (hhi : lim ≤ 9223372036854775807) (hop0 : 0 ≤ ops) (hop : ops ≤ 1000000000000) (hnv : nv + c < 1000000000000) (hT : ∀ s, I64 s → 0 ≤ T s ∧ T s ≤ 1000000000000) :
    Calls Tryz.prog 27 #[.pointer (some ⟨pb, 0, none⟩)] w fun e w' => e = .returned (.int .i64 0) ∧ SyncPost w pb N bv (ops + 1) (lessOne lim) (nv + c) V T w' := by
  have c0 := hb.c0
  have HM := Lib.hid (made_yes pb N w c0 hN)
  have HT := Lib.hid (take_yes w hb hlim hlo hhi hop0 hop)
  have np := ht.ne_blk hb
  have nv' := hv.ne_blk hb
  have HNE := Lib.hid (show pb ≠ bt ∧ pb ≠ bv ∧ bv ≠ bt ∧ bt ≠ pb ∧ bv ≠ pb from ⟨Ne.symm np, Ne.symm nv', hne, np, nv'⟩)
  have HV := Lib.hid hv
  have hvlt := hv.lt
  have htlt := ht.lt
  have hplt := hb.lt
  obtain ⟨D, hown, hD⟩ := ht
  have HD := Lib.hid hD
  have HO := Lib.hid hown
  have HTB := Lib.hid hT
  clear hb hop0 hop hlim hlo hhi np nv' hne hv hown hD hT
  go_enter Tryz.func27, Tryz.ntmps27
  go_wp2_with (first
    | (go_at_call 29; refine (HM.out).mono ?_; rintro e w' ⟨rfl, rfl⟩)
    | (go_at_call 47; refine (HT.out).mono ?_; rintro e w2 ⟨rfl, hb2, hF2, hs2⟩; have HB2 := Lib.hid hb2; have HF2 := Lib.hid hF2; have HO2 := Lib.hid (hF2.ownsMap HO.out HNE.out.2.2.2.1); have HV2 := Lib.hid (HV.out.kept hF2 HNE.out.2.2.2.2); have c2 := hb2.c2; clear hb2 hF2; have HS2 := Lib.hid hs2; clear hs2)
    | (at_range; refine wpList_range_own _ rfl _ 64 rfl 3 3 keyedInt Tryz.underlying64 _ bt nt D rfl HO2.out ?_; intro w3 hrg3 hg3 hs3))
  go_frame
  have hF23 : Fr (fun _ => False) w2 w3 := ⟨hg3.os, hg3.tape, hg3.output, hg3.size, fun i hi _ => hg3.block i hi (by simp)⟩
  have HP0 := Lib.hid (PassAt.start HV2.out HD.out hF23)
  have HRG3 := Lib.hid hrg3
  clear hg3 hs3 hF23 hrg3
  clear c2
  go_loopw [4] (fun _ wr => ∃ left cnt n V', Hid (wr.ranges Tryz.prog 3 (plainElem Tryz.prog 3) bt w2.heap.size nt D left cnt) ∧ Hid (PassAt w2 bv nv c V T left cnt n V' wr)) (fun _ wr => wr.rangeLeft bt w2.heap.size)
  case atStart => exact ⟨_, _, _, _, HRG3, HP0⟩
  case round =>
    obtain ⟨left, cnt, n, V', HR, HP⟩ := hrel
    go_wp2_with (first
      | (at_next; refine wpList_next_ranges_ii _ rfl _ rfl 3 3 .i64 .i64 keyedInt Tryz.underlying3 Tryz.underlying3 bt w2.heap.size nt D left cnt rfl HR.out ?_ ?_)
      | fail)
    · intro hc0 hl0
      have hb3 := HB2.out.kept HP.out.fr HNE.out.2.1
      have c2 := hb3.c2
      have hb4 := hb3.kept (((Fr.refl (fun _ => False) wr)).alloc (.map #[] 0)) id
      have c2' := hb4.c2
      have f2 := hb4.free 2
      have hfr : Fr (fun i => i = pb ∨ i = bv) w wr := (HF2.out.mono (S := fun i => i = pb ∨ i = bv) (fun _ _ e => Or.inl e)).trans HP.out.fr (fun _ _ e => Or.inr e)
      have HE := Lib.hid (sync_end hb3 HP.out.map (m := nv + c) (by have := HP.out.le; omega) (fun s hs => (HP.out.val s hs).2 (hl0 _)) hfr HNE.out.2.2.2.2)
      clear hb3 hb4 hfr hl0 hc0
      have hmm := @run_makeMap Tryz.prog
      go_wp2
      go_ret
      exact ⟨rfl, HE.out⟩
    · intro x c1 w4 cnt1 hwx hwc hlx hat hrg1 hlt hg1 hs1 hen
      have hx := I64.of_wf hwx
      have hc : c1 = T x := by
        have h1 := HD.out.at_ x hx
        rw [hat] at h1
        simpa using h1
      subst hc
      have hne2 : w2.heap.size ≠ bv := by have := HS2.out; omega
      have hF4 : Fr (· = bv) w2 w4 := HP.out.fr.grown hg1 (fun k e => by cases e; exact Or.inr (Nat.le_refl _))
      have hF4' : Fr (· = w2.heap.size) wr w4 := ⟨hg1.os, hg1.tape, hg1.output, hg1.size, fun i hi hn => hg1.block i hi (fun e => hn (by cases e; rfl))⟩
      have hm4 := HP.out.map.kept hF4' (Ne.symm hne2)
      have HST := Lib.hid (settle_any w4 (HB2.out.kept hF4 HNE.out.2.1) hm4 ⟨D, hrg1.owns, HD.out⟩ HNE.out.2.2.1 x (T x) hx (I64.of_wf hwc) (HTB.out x hx).1 (HTB.out x hx).2 (by have := HP.out.le; omega))
      have HK5 : Hid (∀ w5, SecMap w5 bv (n + 1) (settleV V' x (T x) (T x)) → Fr (· = bv) w4 w5 → w5.ranges Tryz.prog 3 (plainElem Tryz.prog 3) bt w2.heap.size nt D (fun z => left z && !z.sameKey (.int .i64 x)) cnt1 ∧ PassAt w2 bv nv c V T (fun z => left z && !z.sameKey (.int .i64 x)) cnt1 (n + 1) (settleV V' x (T x) (T x)) w5) := fun w5 h5 hF5 =>
        ⟨hrg1.kept hF5.grownBy (fun e => HNE.out.2.2.1 (by cases e; rfl)) (fun e => hne2 (by cases e; rfl)), HP.out.step hlx hlt h5 (hF4.trans hF5 (fun _ _ e => e))⟩
      have HLT := Lib.hid hlt
      clear hat hrg1 hlt hg1 hs1 hne2 hF4 hF4' hm4 hlx
      go_wp2_with (first
        | (go_at_call 40; refine (HST.out).mono ?_; rintro e w5 ⟨rfl, h5, hF5⟩; obtain ⟨hr5, hp5⟩ := HK5.out w5 h5 hF5; have HR5 := Lib.hid hr5; have HP5 := Lib.hid hp5; clear h5 hF5 hr5 hp5))
      go_roundw
      case rel => exact ⟨_, _, _, _, HR5, HP5⟩
      case measure => rw [HR5.out.left_eq, HR.out.left_eq]; exact HLT.out

end Go.Proofs.YtflapnbpaodhaaaGreatDoor

/-
  New, Clone, Read, and the statements' helper full.
-/

namespace Go.Proofs.YtflapnbpaodhaaaGreatDoor
set_option maxRecDepth 100000
open Go.RowKit Go.Maps

/-- A disk: its block, and its two maps. -/
structure DiskAt (w : World) (pb bv bt nv nt c : Nat) (N ops lim : Int) (dk : Bool) (V : Int → Int → List UInt8) (T : Int → Int) : Prop where
  blk : Blk w pb N bv bt ops lim dk
  sec : SecMap w bv nv V
  turn : TurnMap w bt nt T c
  ne : bv ≠ bt

theorem DiskAt.kept {w w' : World} {pb bv bt nv nt c : Nat} {N ops lim : Int} {dk : Bool} {V : Int → Int → List UInt8} {T : Int → Int} (h : DiskAt w pb bv bt nv nt c N ops lim dk V T) {S : Nat → Prop} (hF : Fr S w w') (h1 : ¬ S pb) (h2 : ¬ S bv) (h3 : ¬ S bt) : DiskAt w' pb bv bt nv nt c N ops lim dk V T :=
  ⟨h.blk.kept hF h1, h.sec.kept hF h2, h.turn.kept hF h3, h.ne⟩

/-- What New leaves. -/
def NewPost (w : World) (N : Int) (w' : World) : Prop :=
  DiskAt w' (w.heap.size + 2) w.heap.size (w.heap.size + 1) 0 0 0 N 0 (-1) false (fun _ _ => noughts) (fun _ => 0) ∧ Fr (fun _ => False) w w' ∧ w'.heap.size = w.heap.size + 3

theorem new_end (w : World) (N : Int) : NewPost w N (((w.alloc (.map #[] 0)).alloc (.map #[] 0)).alloc (.cells (dcells N w.heap.size (w.heap.size + 1) 0 (-1) false) 66)) := by
  have h1 := SecMap.made w
  have h2 := TurnMap.made (w.alloc (.map #[] 0))
  have e1 : (w.alloc (.map #[] 0)).heap.size = w.heap.size + 1 := by simp
  rw [e1] at h2
  have e2 : ((w.alloc (.map #[] 0)).alloc (.map #[] 0)).heap.size = w.heap.size + 2 := by simp
  have h3 := heap_alloc_new ((w.alloc (.map #[] 0)).alloc (.map #[] 0)) (.cells (dcells N w.heap.size (w.heap.size + 1) 0 (-1) false) 66)
  rw [e2] at h3
  have F2 : Fr (fun _ => False) (w.alloc (.map #[] 0)) ((w.alloc (.map #[] 0)).alloc (.map #[] 0)) := (Fr.refl _ _).alloc _
  have F3 : Fr (fun _ => False) ((w.alloc (.map #[] 0)).alloc (.map #[] 0)) (((w.alloc (.map #[] 0)).alloc (.map #[] 0)).alloc (.cells (dcells N w.heap.size (w.heap.size + 1) 0 (-1) false) 66)) := (Fr.refl _ _).alloc _
  exact ⟨⟨h3, (h1.kept F2 id).kept F3 id, h2.kept F3 id, by omega⟩, (((Fr.refl _ w).alloc _).alloc _).alloc _, by simp⟩

set_option maxHeartbeats 400000 in
theorem new_ok (w : World) (N : Int) (h1 : 1 ≤ N) (h2 : N ≤ 4096) :
    Calls Tryz.prog 21 #[.int .i64 N] w fun e w' => e = .returned (.tuple #[.pointer (some ⟨w.heap.size + 2, 0, none⟩), .int .i64 0]) ∧ NewPost w N w' := by
  have HE := Lib.hid (new_end w N)
  have hmm := @run_makeMap Tryz.prog
  go_enter Tryz.func21, Tryz.ntmps21
  go_wp2
  go_ret2
  exact ⟨rfl, HE.out⟩

set_option maxHeartbeats 400000 in
theorem new_no (w : World) (N : Int) (h : N < 1 ∨ 4096 < N) :
    Calls Tryz.prog 21 #[.int .i64 N] w fun e w' => e = .returned (.tuple #[.pointer none, .int .i64 2]) ∧ w = w' := by
  by_cases h1 : N < 1
  · clear h
    go_enter Tryz.func21, Tryz.ntmps21
    go_wp2
    go_ret2
    exact ⟨rfl, rfl⟩
  · have h2 : 4096 < N := by omega
    clear h
    go_enter Tryz.func21, Tryz.ntmps21
    go_wp2
    go_ret2
    exact ⟨rfl, rfl⟩

end Go.Proofs.YtflapnbpaodhaaaGreatDoor

/-
  Read, and the statements' helpers full and SameBytes.
-/

namespace Go.Proofs.YtflapnbpaodhaaaGreatDoor
set_option maxRecDepth 100000
open Go.RowKit Go.Maps

theorem read_arg (w : World) {pb : Nat} {N : Int} {bv bt : Nat} {ops lim : Int} {dk : Bool} (hb : Blk w pb N bv bt ops lim dk) (hN : 0 < N) (at_ : Int) (h : at_ < 0 ∨ N ≤ at_) :
    Calls Tryz.prog 10 #[.pointer (some ⟨pb, 0, none⟩), .int .i64 at_] w fun e w' => e = .returned (.tuple #[.slice none 0 0, .int .i64 2]) ∧ w = w' := by
  have c0 := hb.c0
  have HM := Lib.hid (made_yes pb N w c0 hN)
  have HH := Lib.hid (has_any pb N at_ w c0)
  have hh : (decide (0 ≤ at_) && decide (at_ < N)) = false := by simp; omega
  rw [hh] at HH
  clear hb hh h
  go_enter Tryz.func10, Tryz.ntmps10
  go_wp2_with (first
    | (go_at_call 29; refine (HM.out).mono ?_; rintro e w' ⟨rfl, rfl⟩)
    | (go_at_call 30; refine (HH.out).mono ?_; rintro e w' ⟨rfl, rfl⟩))
  go_ret2
  exact ⟨rfl, rfl⟩

theorem read_power (w : World) {pb : Nat} {N : Int} {bv bt : Nat} {ops lim : Int} (hb : Blk w pb N bv bt ops lim true) (hN : 0 < N) (at_ : Int) (h0 : 0 ≤ at_) (h1 : at_ < N) :
    Calls Tryz.prog 10 #[.pointer (some ⟨pb, 0, none⟩), .int .i64 at_] w fun e w' => e = .returned (.tuple #[.slice none 0 0, .int .i64 10]) ∧ w = w' := by
  have c0 := hb.c0
  have c5 := hb.c5
  have HM := Lib.hid (made_yes pb N w c0 hN)
  have HH := Lib.hid (has_any pb N at_ w c0)
  have hh : (decide (0 ≤ at_) && decide (at_ < N)) = true := by simp [h0, h1]
  rw [hh] at HH
  clear hb hh
  go_enter Tryz.func10, Tryz.ntmps10
  go_wp2_with (first
    | (go_at_call 29; refine (HM.out).mono ?_; rintro e w' ⟨rfl, rfl⟩)
    | (go_at_call 30; refine (HH.out).mono ?_; rintro e w' ⟨rfl, rfl⟩))
  go_ret2
  exact ⟨rfl, rfl⟩

/-- A new slice of bytes in a block of its own. -/
def NewBytes (w : World) (l : List UInt8) (e : Ending) (w' : World) : Prop :=
  ∃ g cap, e = .returned (.tuple #[.slice (some ⟨g, 0, none⟩) l.length cap, .int .i64 0]) ∧ w.heap.size ≤ g ∧ (∃ t, w'.heap[g]? = some (.cells (secC l) t (0, 0))) ∧ Fr (fun _ => False) w w'

set_option maxRecDepth 100000 in
set_option maxHeartbeats 1000000 in
theorem read_ok (w : World) {pb bv bt nv nt c : Nat} {N ops lim : Int} {V : Int → Int → List UInt8} {T : Int → Int} (h : DiskAt w pb bv bt nv nt c N ops lim false V T) (hN : 0 < N) (at_ : Int) (h0 : 0 ≤ at_) (h1 : at_ < N) (hNi : N ≤ 4096) (hT : I64 (T at_)) :
    Calls Tryz.prog 10 #[.pointer (some ⟨pb, 0, none⟩), .int .i64 at_] w fun e w' => NewBytes w (V at_ (T at_)) e w' := by
  have c0 := h.blk.c0
  have c5 := h.blk.c5
  have HM := Lib.hid (made_yes pb N w c0 hN)
  have HH := Lib.hid (has_any pb N at_ w c0)
  have hh : (decide (0 ≤ at_) && decide (at_ < N)) = true := by simp [h0, h1]
  rw [hh] at HH
  have hs : I64 at_ := by constructor <;> omega
  have HL := Lib.hid (latest_any w h.blk h.sec h.turn at_ hs hT)
  have HLEN := Lib.hid (h.sec.look hs hT).2
  clear h hh
  go_enter Tryz.func10, Tryz.ntmps10
  go_wp2_with (first
    | (go_at_call 29; refine (HM.out).mono ?_; rintro e w' ⟨rfl, rfl⟩)
    | (go_at_call 30; refine (HH.out).mono ?_; rintro e w' ⟨rfl, rfl⟩)
    | (go_at_call 31; refine (HL.out).mono ?_; rintro e w2 ⟨rfl, _, hB2⟩; have HA := Lib.hid (heap_alloc_new w2 (.cells (secC noughts) 68)); have HB2 := Lib.hid hB2; clear hB2)
    | ((with_reducible refine wpList_allocArr ?_ ?_ ?_); (exact rfl); (exact rfl))
    | ((with_reducible refine wpList_storeArr ?_ (.tmp 6) (.tmp 20) ?_ w2.heap.size (V at_ (T at_)) noughts HLEN.out noughts_length ?_ ?_ HA.out ?_); (exact rfl); (exact rfl); (exact rfl); (exact rfl); intro w3 h3 hF3 hs3; have H3 := Lib.hid h3; have HF3 := Lib.hid hF3; clear h3 hF3 hs3)
    | ((with_reducible refine wpList_sliceArr ?_ (.tmp 6) ?_ w2.heap.size ?_ ?_); (exact rfl); (exact rfl); (exact rfl)))
  go_ret2
  refine ⟨w2.heap.size, 256, by rw [HLEN.out]; rfl, HB2.out.size, ⟨_, H3.out⟩, ?_⟩
  have hF2 : Fr (fun _ => False) w w2 := ⟨HB2.out.os, HB2.out.tape, HB2.out.output, HB2.out.size, fun i hi _ => HB2.out.block i hi⟩
  exact (((hF2.alloc _).mono (S := fun i => i = w2.heap.size) (fun _ _ e => e.elim)).trans HF3.out (fun _ _ e => e)).mono (fun i hi e => by have := HB2.out.size; omega)

end Go.Proofs.YtflapnbpaodhaaaGreatDoor

/-
  The statements' helpers: Among, SameBytes, full.
-/



namespace Go.Proofs.YtflapnbpaodhaaaGreatDoor
set_option maxRecDepth 100000
open Go.RowKit Go.Maps


/-- Cells from an address on read as bytes. -/
def Reads (w : World) (blk off : Nat) (l : List UInt8) : Prop := ∀ j b, l[j]? = some b → w.cell? ⟨blk, off + j, none⟩ = some (.int .u8 (b.toNat : Int))


set_option maxRecDepth 100000 in
set_option maxHeartbeats 1000000 in
theorem sameR_any (w : World) (b1 o1 c1 b2 o2 c2 : Nat) (l1 l2 : List UInt8) (hr1 : Reads w b1 o1 l1) (hr2 : Reads w b2 o2 l2) (hl : l1.length = l2.length) (hb : l1.length ≤ 1000000000000) :
    Calls Tryz.prog 19 #[.slice (some ⟨b1, o1, none⟩) l1.length c1, .slice (some ⟨b2, o2, none⟩) l2.length c2] w fun e w' => e = .returned (.bool (decide (l1 = l2))) ∧ Calm w w' := by
  obtain ⟨n, hn⟩ : ∃ n, n = l1.length := ⟨_, rfl⟩
  rw [← hl, ← hn]
  have hb' : n ≤ 1000000000000 := by omega
  have HR1 := Lib.hid hr1
  have HR2 := Lib.hid hr2
  have HN := Lib.hid hn
  have HL := Lib.hid hl
  clear hr1 hr2 hn hl hb
  go_enter Tryz.func19, Tryz.ntmps19
  go_wp2_with fail
  go_loopw [5] (fun i wr => ∃ k : Nat, k ≤ n ∧ i = .int .i64 k ∧ Hid (l1.take k = l2.take k ∧ Calm w wr)) (fun i _ => n - (intOf i).toNat)
  case atStart => exact ⟨0, Nat.zero_le _, rfl, (show _ ∧ _ from ⟨rfl, Calm.refl _⟩)⟩
  case round =>
    obtain ⟨k, hk, rfl, HC⟩ := hrel
    by_cases hlt : k < n
    · have hk1 : k < l1.length := by have := HN.out; omega
      have hk2 : k < l2.length := by have := HN.out; have := HL.out; omega
      have d1 : wr.cell? ⟨b1, o1 + k, none⟩ = some (.int .u8 (l1[k].toNat : Int)) := (HC.out.2.cell _).trans (HR1.out k _ (List.getElem?_eq_getElem hk1))
      have d2 : wr.cell? ⟨b2, o2 + k, none⟩ = some (.int .u8 (l2[k].toNat : Int)) := (HC.out.2.cell _).trans (HR2.out k _ (List.getElem?_eq_getElem hk2))
      by_cases he : l1[k] = l2[k]
      · have HE := Lib.hid (take_same_succ HC.out.1 hk1 hk2 he)
        rw [← he] at d2
        have hx := l1[k].toNat_lt
        obtain ⟨x, hxx⟩ : ∃ x : Nat, x = l1[k].toNat := ⟨_, rfl⟩
        rw [← hxx] at d1 d2
        have h0 : (0 : Int) ≤ k := by omega
        have h1 : (k : Int) < n := by omega
        clear he hk1 hk2 hxx hx
        go_wp2_with fail
        go_quiet (fail)
        go_wp2
        go_roundw
        case rel => exact ⟨k + 1, by omega, by go_num, (show _ ∧ _ from ⟨HE.out, HC.out.2.trans ⟨nq, rfl⟩⟩)⟩
        case measure => simp [intOf]; omega
      · have hd : decide (l1 = l2) = false := decide_eq_false (fun e => he (by subst e; rfl))
        have HD := Lib.hid hd
        have hne : ((l1[k].toNat : Int) != (l2[k].toNat : Int)) = true := by
          rw [bne_iff_ne]
          intro e
          exact he (UInt8.toNat_inj.1 (by omega))
        obtain ⟨x, hxx⟩ : ∃ x : Nat, x = l1[k].toNat := ⟨_, rfl⟩
        obtain ⟨y, hyy⟩ : ∃ y : Nat, y = l2[k].toNat := ⟨_, rfl⟩
        rw [← hxx] at d1 hne
        rw [← hyy] at d2 hne
        have h0 : (0 : Int) ≤ k := by omega
        have h1 : (k : Int) < n := by omega
        clear he hk1 hk2 hxx hyy hd
        go_wp2_with fail
        go_quiet (fail)
        go_wp2
        go_ret
        exact ⟨by rw [HD.out]; rfl, HC.out.2.trans ⟨nq, rfl⟩⟩
    · have hkn : k = n := by omega
      subst hkn
      have hd : decide (l1 = l2) = true := decide_eq_true (by
        have h := HC.out.1
        rw [List.take_of_length_le (by have := HN.out; omega), List.take_of_length_le (by have := HN.out; have := HL.out; omega)] at h
        exact h)
      have HD := Lib.hid hd
      clear hd
      go_wp2_with fail
      go_wp2
      go_ret
      exact ⟨by rw [HD.out]; rfl, HC.out.2⟩


theorem wrap_u64 (n : Int) : 0 ≤ IntKind.u64.wrap n ∧ IntKind.u64.wrap n < 18446744073709551616 := by
  have h : IntKind.u64.wrap n = n % 18446744073709551616 := by
    unfold IntKind.wrap
    simp only
    have hs : IntKind.u64.signed = false := rfl
    rw [hs]
    rfl
  omega


/-- A sector of one byte. -/
def one (c : UInt8) : List UInt8 := List.replicate 256 c
theorem one_length (c : UInt8) : (one c).length = 256 := List.length_replicate
def part (c : UInt8) (k : Nat) : List UInt8 := List.replicate k c ++ List.replicate (256 - k) 0
theorem part_zero (c : UInt8) : part c 0 = noughts := by unfold part noughts; rw [List.replicate_zero, List.nil_append]
theorem part_full (c : UInt8) : part c 256 = one c := by unfold part one; rw [Nat.sub_self, List.replicate_zero, List.append_nil]
theorem part_length (c : UInt8) {k : Nat} (hk : k ≤ 256) : (part c k).length = 256 := by unfold part; rw [List.length_append, List.length_replicate, List.length_replicate]; omega
theorem part_set (c : UInt8) {k : Nat} (hk : k < 256) : (part c k).set k c = part c (k + 1) := by
  unfold part
  apply List.ext_getElem?
  intro j
  rw [List.getElem?_set]
  simp only [List.length_append, List.length_replicate, List.getElem?_append, List.getElem?_replicate]
  by_cases hj : k = j
  · subst hj
    rw [if_pos rfl, if_pos (by omega), if_pos (by omega), if_pos (by omega)]
  · rw [if_neg hj]
    by_cases h1 : j < k
    · rw [if_pos h1, if_pos h1, if_pos (by omega), if_pos (by omega)]
    · rw [if_neg h1, if_neg (show ¬ j < k + 1 by omega)]
      by_cases h2 : j - k < 256 - k
      · rw [if_pos h2, if_pos (by omega)]
      · rw [if_neg h2, if_neg (by omega)]
theorem secC_set (l : List UInt8) (k : Nat) (c : UInt8) : (secC l).setIfInBounds k (.int .u8 (c.toNat : Int)) = secC (l.set k c) := by
  unfold secC cellsOf
  rw [List.setIfInBounds_toArray, List.map_set]

theorem run_makeByte (w : World) : (Instr.makeSlice 33 (.int .i64 256) (.int .i64 256)).run Tryz.prog w = .ok (.slice (some ⟨w.heap.size, 0, none⟩) 256 256) (w.alloc (.cells (secC noughts) 5)) := by
  kernel_rfl

structure FullAt (w : World) (c : UInt8) (k : Nat) (wr : World) : Prop where
  own : wr.heap[w.heap.size]? = some (.cells (secC (part c k)) 5 (0, 0))
  fr : Fr (fun _ => False) w wr

/-- A new slice of bytes in a block of its own. -/
def NewSlice (w : World) (l : List UInt8) (e : Ending) (w' : World) : Prop :=
  ∃ g cap, e = .returned (.slice (some ⟨g, 0, none⟩) l.length cap) ∧ w.heap.size ≤ g ∧ (∃ t, w'.heap[g]? = some (.cells (secC l) t (0, 0))) ∧ Fr (fun _ => False) w w'

set_option maxRecDepth 100000 in
set_option maxHeartbeats 1000000 in
theorem full_any (w : World) (c : UInt8) :
    Calls Tryz.prog 26 #[.int .u8 (c.toNat : Int)] w fun e w' => NewSlice w (one c) e w' := by
  have HMK := run_makeByte w
  have h0 : FullAt w c 0 (w.alloc (.cells (secC noughts) 5)) := ⟨by rw [part_zero]; exact heap_alloc_new _ _, (Fr.refl _ w).alloc _⟩
  have H0 := Lib.hid h0
  clear h0
  go_enter Tryz.func26, Tryz.ntmps26
  go_wp2_with fail
  go_loopw [4] (fun i wr => ∃ k : Nat, k ≤ 256 ∧ i = .int .i64 k ∧ Hid (FullAt w c k wr)) (fun i _ => 256 - (intOf i).toNat)
  case atStart => exact ⟨0, Nat.zero_le _, rfl, H0⟩
  case round =>
    obtain ⟨k, hk, rfl, HF⟩ := hrel
    by_cases hlt : k < 256
    · have d1 : wr.cell? ⟨w.heap.size, k, none⟩ = some (.int .u8 (((part c k)[k]'(by rw [part_length c hk]; exact hlt)).toNat : Int)) := by
        rw [cellAt HF.out.own]
        simp [secC, cellsOf, part_length c hk, hlt]
      have f1 := freeAt HF.out.own k
      have hn : FullAt w c (k + 1) (wr.setCell ⟨w.heap.size, k, none⟩ (.int .u8 (c.toNat : Int))) := by
        refine ⟨?_, HF.out.fr.setCell (p := ⟨w.heap.size, k, none⟩) (Or.inr (Nat.le_refl _)) _⟩
        rw [heap_setCell_same _ _ _ _ _ _ HF.out.own, secC_set, part_set c hlt]
      have HN := Lib.hid hn
      clear hn
      go_wp2
      go_roundw
      case rel => exact ⟨k + 1, by omega, by go_num, HN⟩
      case measure => simp [intOf]; omega
    · have hkn : k = 256 := by omega
      subst hkn
      go_wp2
      go_ret
      refine ⟨w.heap.size, 256, by rw [one_length]; rfl, Nat.le_refl _, ⟨5, ?_⟩, HF.out.fr⟩
      rw [← part_full]
      exact HF.out.own

end Go.Proofs.YtflapnbpaodhaaaGreatDoor

/-
  gather, Image, Sure.
-/

namespace Go.Proofs.YtflapnbpaodhaaaGreatDoor
set_option maxRecDepth 100000
open Go.RowKit Go.Maps


/-- All sectors' bytes, one behind the other. -/
def gath (G : Nat → List UInt8) : Nat → List UInt8
  | 0 => []
  | k + 1 => gath G k ++ G k
theorem gath_length {G : Nat → List UInt8} {N : Nat} (hG : ∀ k, k < N → (G k).length = 256) : ∀ k, k ≤ N → (gath G k).length = k * 256
  | 0, _ => rfl
  | k + 1, h => by
    rw [gath, List.length_append, gath_length hG k (by omega), hG k (by omega), Nat.succ_mul]
theorem cellsOf_append (a b : List UInt8) : cellsOf (a ++ b) = cellsOf a ++ cellsOf b := by simp [cellsOf]
theorem secC_list (l : List UInt8) : (secC l).toList = cellsOf l := by simp [secC]

structure GatAt (w : World) (g N : Nat) (G : Nat → List UInt8) (k : Nat) (wr : World) : Prop where
  own : wr.ownsRow g 5 1 (.slice (some ⟨g, 0, none⟩) (k * 256) (N * 256)) (k * 256) (cellsOf (gath G k))
  fr : Fr (fun _ => False) w wr

/-- A new slice of bytes. -/
def NewReads (w : World) (l : List UInt8) (e : Ending) (w' : World) : Prop :=
  ∃ g cap, e = .returned (.slice (some ⟨g, 0, none⟩) l.length cap) ∧ w.heap.size ≤ g ∧ g < w'.heap.size ∧ Reads w' g 0 l ∧ Fr (fun _ => False) w w'

theorem reads_of_row {w : World} {g n : Nat} {t : TypeId} {l : List UInt8} {cur : Array Value} (hg : w.heap[g]? = some (.cells cur t (0, 0))) (h : cur.toList.take n = cellsOf l) : Reads w g 0 l := by
  intro j b hj
  rw [cellAt hg, Nat.zero_add, ← Array.getElem?_toList]
  have h1 : (cur.toList.take n)[j]? = some (.int .u8 (b.toNat : Int)) := by rw [h, cellsOf_get, hj]; rfl
  rw [List.getElem?_take] at h1
  split at h1
  · exact h1
  · cases h1

theorem row_kept {w w' : World} {base : Nat} {e : TypeId} {size : Nat} {v : Value} {n : Nat} {xs : List Value} (h : w.ownsRow base e size v n xs) (hF : Fr (fun _ => False) w w') : w'.ownsRow base e size v n xs := by
  obtain ⟨h1, h2⟩ := h
  refine ⟨h1, ?_⟩
  rcases h2 with h2 | ⟨g, cap, cur, hv, hg, hh, r⟩
  · exact Or.inl h2
  · exact Or.inr ⟨g, cap, cur, hv, hg, (hF.block g (Array.getElem?_eq_some_iff.1 hh).1 id).trans hh, r⟩

theorem Fr.mid {wr w2 w3 : World} {o : Obj} (hB : Below wr.heap.size wr w2) (hF : Fr (· = w2.heap.size) (w2.alloc o) w3) : Fr (fun _ => False) wr w3 := by
  have h2 : Fr (fun _ => False) wr w2 := ⟨hB.os, hB.tape, hB.output, hB.size, fun i hi _ => hB.block i hi⟩
  exact (((h2.alloc o).mono (S := fun i => i = w2.heap.size) (fun _ _ e => e.elim)).trans hF (fun _ _ e => e)).mono (fun i hi e => by have := hB.size; omega)

theorem src_of_block {w : World} {g : Nat} {t : TypeId} {l : List UInt8} (h : w.heap[g]? = some (.cells (secC l) t (0, 0))) : ∀ j u, (cellsOf l)[j]? = some u → w.cell? ((⟨g, 0, none⟩ : Addr).add j) = some u := by
  intro j u hj
  have hadd : (⟨g, 0, none⟩ : Addr).add j = ⟨g, 0 + j, none⟩ := by unfold Addr.add; split <;> simp_all
  rw [hadd, Nat.zero_add, cellAt h]
  unfold secC
  simpa using hj

theorem GatAt.kept {w : World} {g N : Nat} {G : Nat → List UInt8} {k : Nat} {wr w3 : World} (h : GatAt w g N G k wr) (hF : Fr (fun _ => False) wr w3) : GatAt w g N G k w3 :=
  ⟨row_kept h.own hF, h.fr.trans hF (fun _ _ e => e)⟩

theorem GatAt.ends {w : World} {N : Nat} {G : Nat → List UInt8} {wr : World} (h : GatAt w w.heap.size N G N wr) (hG : ∀ k, k < N → (G k).length = 256) :
    NewReads w (gath G N) (.returned (.slice (some ⟨w.heap.size, 0, none⟩) (N * 256) (N * 256))) wr := by
  refine ⟨w.heap.size, N * 256, by rw [gath_length hG N (Nat.le_refl _)], Nat.le_refl _, ?_⟩
  rcases h.own.2 with ⟨e, _⟩ | ⟨g, cap, cur, hv, _, hg, _, _, _, hx⟩
  · cases e
  · cases hv
    rw [Nat.mul_one] at hx
    exact ⟨(Array.getElem?_eq_some_iff.1 hg).1, reads_of_row hg hx, h.fr⟩

theorem Reads.kept {w w' : World} {g off : Nat} {l : List UInt8} (h : Reads w g off l) {S : Nat → Prop} (hF : Fr S w w') (hlt : g < w.heap.size) (hn : ¬ S g) : Reads w' g off l := fun j b hj =>
  (World.cell?_of_block (w := w) (w' := w') (hF.block g hlt hn)).trans (h j b hj)

/-- What the loop of gather asks of the function that it calls. -/
def CallL (w : World) (pb N : Nat) (G : Nat → List UInt8) : Prop :=
  ∀ (wr : World) (k : Nat), k < N → Fr (fun _ => False) w wr → Calls Tryz.prog 31 #[.pointer (some ⟨pb, 0, none⟩), .int .i64 (k : Int)] wr fun e w' => e = .returned (secV (G k)) ∧ (G k).length = 256 ∧ Below wr.heap.size wr w'

set_option maxRecDepth 100000 in
set_option maxHeartbeats 1000000 in
theorem gatherL (w : World) {pb N : Nat} {bv bt : Nat} {ops lim : Int} {dk : Bool} (hb : Blk w pb N bv bt ops lim dk) (hN0 : 1 ≤ N) (hN : N ≤ 4096) (G : Nat → List UInt8) (hG : ∀ k, k < N → (G k).length = 256) (hcall : CallL w pb N G) :
    Calls Tryz.prog 43 #[.pointer (some ⟨pb, 0, none⟩), .func (.func 31) #[.pointer (some ⟨pb, 0, none⟩)] #[]] w fun e w' => NewReads w (gath G N) e w' := by
  obtain ⟨i0, hi, hz0, hz1, hz2⟩ := info_parts infoB
  have HB := Lib.hid hb
  have c0 := hb.c0
  have HC := Lib.hid hcall
  have HG := Lib.hid hG
  have hmul : ((N : Int) * 256) = ((N * 256 : Nat) : Int) := by omega
  have HI := Lib.hid (show Tryz.prog.info? 5 = some i0 ∧ i0.zero = some (.int .u8 0) ∧ i0.size = 1 ∧ i0.bytes * (N * 256) ≤ 281474976710656 ∧ N * 256 ≤ maxLen from ⟨hi, hz0, hz1, by rw [hz2]; omega, by unfold maxLen; omega⟩)
  have HMUL := Lib.hid hmul
  clear hi hz0 hz1 hz2 hmul hb hcall hG
  go_enter Tryz.func43, Tryz.ntmps43
  go_wp2_with (first
    | ((with_reducible refine wpList_make_own _ ?_ (.const (.int .i64 0)) (.tmp 12) 33 ?_ w.heap.size 5 i0 (.int .u8 0) 1 Tryz.underlying33 HI.out.1 HI.out.2.1 HI.out.2.2.1 .i64 .i64 _ (N * 256) ?_ ?_ HMUL.out HI.out.2.2.2.1 HI.out.2.2.2.2 (Nat.le_refl _) ?_); (exact rfl); (exact rfl); (exact rfl); (exact rfl); intro w1 hown1 hg1; have HO1 := Lib.hid hown1; have HF1 := Lib.hid ((Fr.refl (fun _ => False) w).grown hg1 (fun k e => by cases e)); have c0 := (HB.out.kept HF1.out id).c0; clear hown1 hg1))
  go_loopw [5, 18] (fun v i wr => ∃ k : Nat, k ≤ N ∧ i = .int .i64 k ∧ v = .slice (some ⟨w.heap.size, 0, none⟩) (k * 256) (N * 256) ∧ Hid (GatAt w w.heap.size N G k wr)) (fun _ i _ => N - (intOf i).toNat)
  case atStart => exact ⟨0, Nat.zero_le _, rfl, by rw [Nat.zero_mul], (show GatAt _ _ _ _ _ _ from ⟨by rw [Nat.zero_mul]; exact HO1.out, HF1.out⟩)⟩
  case round =>
    obtain ⟨k, hk, rfl, rfl, HA⟩ := hrel
    by_cases hlt : k < N
    · have HCK := Lib.hid (HC.out wr k hlt HA.out.fr)
      have HLEN := Lib.hid (HG.out k hlt)
      have HFIT : Hid (k * 256 + 256 ≤ N * 256 ∧ (cellsOf (G k)).length = 256 * 1) := ⟨by omega, by rw [cellsOf_length, HLEN.out]⟩
      go_wp2_with (first
        | (go_at_call 31; refine (HCK.out).mono ?_; rintro e w2 ⟨rfl, _, hB2⟩; have HAL := Lib.hid (heap_alloc_new w2 (.cells (secC noughts) 68)); have HB2 := Lib.hid hB2; clear hB2)
        | ((with_reducible refine wpList_allocArr ?_ ?_ ?_); (exact rfl); (exact rfl))
        | ((with_reducible refine wpList_storeArr ?_ (.tmp 7) (.tmp 23) ?_ w2.heap.size (G k) noughts HLEN.out noughts_length ?_ ?_ HAL.out ?_); (exact rfl); (exact rfl); (exact rfl); (exact rfl); intro w3 h3 hF3 hs3; have H3 := Lib.hid h3; have HF3 := Lib.hid hF3; clear h3 hF3 hs3
           have HO3 := Lib.hid (HA.out.kept (Fr.mid HB2.out HF3.out))
           have HSRC := Lib.hid (src_of_block H3.out))
        | ((with_reducible refine wpList_sliceArr ?_ (.tmp 7) ?_ w2.heap.size ?_ ?_); (exact rfl); (exact rfl); (exact rfl))
        | ((with_reducible refine wpList_append_fits _ ?_ (.tmp 24) (.tmp 25) 33 ?_ w.heap.size 5 i0 1 Tryz.underlying33 HI.out.1 HI.out.2.2.1 w.heap.size (k * 256) (N * 256) (cellsOf (gath G k)) ?_ HO3.out.own ⟨w2.heap.size, 0, none⟩ 256 256 (cellsOf (G k)) ?_ HFIT.out.2 HSRC.out (cellsOf_one _) HFIT.out.1 ?_); (exact rfl); (exact rfl); (exact rfl); (exact rfl); intro w4 hown4 hg4; have HO4 := Lib.hid hown4; have HG4 := Lib.hid hg4; clear hown4 hg4))
      go_roundw
      case rel => exact ⟨k + 1, by omega, by go_num, by rw [Nat.succ_mul], (show GatAt _ _ _ _ _ _ from ⟨by rw [Nat.succ_mul, gath, cellsOf_append]; exact HO4.out, HO3.out.fr.grown HG4.out (fun j e => by cases e; exact Or.inr (Nat.le_refl _))⟩)⟩
      case measure => simp [intOf]; omega
    · have hkN : k = N := by omega
      subst hkN
      have HE := Lib.hid (HA.out.ends (HG.out))
      go_wp2
      go_ret
      exact HE.out

theorem allL (w : World) {pb N : Nat} {bv bt : Nat} {ops lim : Int} {dk : Bool} (hb : Blk w pb N bv bt ops lim dk) (hN0 : 1 ≤ N) (hN : N ≤ 4096) (G : Nat → List UInt8) (hG : ∀ k, k < N → (G k).length = 256) (hcall : CallL w pb N G) :
    Calls Tryz.prog 17 #[.pointer (some ⟨pb, 0, none⟩)] w fun e w' => NewReads w (gath G N) e w' := by
  have c0 := hb.c0
  have HM := Lib.hid (made_yes pb N w c0 (by omega))
  have HGA := Lib.hid (gatherL w hb hN0 hN G hG hcall)
  clear hb hG hcall
  go_enter Tryz.func17, Tryz.ntmps17
  go_wp2_with (first
    | (go_at_call 29; refine (HM.out).mono ?_; rintro e w' ⟨rfl, rfl⟩)
    | (go_at_call 43; refine (HGA.out).mono ?_; rintro e w2 ⟨g, cap, rfl, h1, h2, h3, h4⟩; have H := Lib.hid (show w.heap.size ≤ g ∧ g < w2.heap.size ∧ Reads w2 g 0 (gath G N) ∧ Fr (fun _ => False) w w2 from ⟨h1, h2, h3, h4⟩); clear h1 h2 h3 h4))
  go_ret
  exact ⟨g, cap, rfl, H.out.1, H.out.2.1, H.out.2.2.1, H.out.2.2.2⟩

/-- Image tells each sector's latest bytes. -/
theorem image_any (w : World) {pb bv bt nv nt c N : Nat} {ops lim : Int} {dk : Bool} {V : Int → Int → List UInt8} {T : Int → Int} (h : DiskAt w pb bv bt nv nt c N ops lim dk V T) (hN0 : 1 ≤ N) (hN : N ≤ 4096) (hT : ∀ s, I64 s → 0 ≤ T s ∧ T s ≤ 1000000000000) :
    Calls Tryz.prog 17 #[.pointer (some ⟨pb, 0, none⟩)] w fun e w' => NewReads w (gath (fun k => V k (T k)) N) e w' := by
  have hs : ∀ k : Nat, k < N → I64 (k : Int) := fun k hk => by constructor <;> omega
  have hTs : ∀ k : Nat, k < N → I64 (T k) := fun k hk => by have := hT k (hs k hk); constructor <;> omega
  exact allL w h.blk hN0 hN _ (fun k hk => (h.sec.look (hs k hk) (hTs k hk)).2) (fun wr k hk hF =>
    have h' := h.kept hF id id id
    latest_any wr h'.blk h'.sec h'.turn k (hs k hk) (hTs k hk))

end Go.Proofs.YtflapnbpaodhaaaGreatDoor

/-
  slices.Sorted(maps.Keys(turns)).
-/


namespace Go.Proofs.YtflapnbpaodhaaaGreatDoor
set_option maxRecDepth 100000
open Go.RowKit Go.Maps Go.Sort Go.Shelf

/-- The sectors that have a turn, rising. -/
structure Rising (T : Int → Int) (L : List Int) : Prop where
  sorted : L.Pairwise (· < ·)
  mem : ∀ x, x ∈ L ↔ (I64 x ∧ 0 < T x)

theorem sortsA (m : Nat) : AnyZI.SortsIn Tryz.prog Tryz.sortedA_ren Fence.wide m :=
  ⟨fun blk off cap ss W hH hblk hsz => callsIn_wide.2 (AnyM.slices_Sort_int Tryz.sortA blk off cap ss W hH hblk hsz),
   fun p cap W => callsIn_wide.2 (AnyM.slices_Sort_int_none Tryz.sortA p cap W)⟩

theorem keys_call (w : World) (b : Nat) : Calls Tryz.prog 39 #[.map (some b)] w fun e w' => e = .returned (.func (.func 58) #[] #[.pointer (some ⟨w.heap.size, 0, none⟩)]) ∧ w' = w.alloc (.cells #[.map (some b)] 64) :=
  (callsIn_wide (n := 5)).1 (AnyZI.keys_in Tryz.keysA Fence.wide 5 trivial rfl (some b) w)

theorem rising_of {w : World} {b n : Nat} {D : DU} {T : Int → Int} {c : Nat} (hown : w.ownsMap Tryz.prog 3 (plainElem Tryz.prog 3) b n D) (hD : TurnD D T c) {ss : List Int} (hp : ss.Perm (intKeys D)) : Rising T (ss.mergeSort leI) ∧ ss.length = c := by
  obtain ⟨es, rfl, hpw, _⟩ := hown.entries keyedInt
  obtain ⟨es', hD', hko⟩ := hown.keysOf
  obtain rfl : es = es' := by simpa using hD'
  have hki : ∀ p ∈ es, ∃ x, p.1 = .int .i64 x ∧ (Lit.int .i64 x).wf = true := fun p hp => by
    obtain ⟨v, hv⟩ := hko p hp
    obtain ⟨x, _, hx, hw⟩ := Maps.keyOf_i64 Tryz.underlying3 hv
    exact ⟨x, hx, hw⟩
  have hnd : (intKeys (.map es : DU)).Nodup := by
    show (es.map fun p => _root_.Go.intOf p.1).Nodup
    refine List.pairwise_map.2 (hpw.imp_of_mem fun {p q} hp' hq' hne e => hne ?_)
    obtain ⟨a, ha, _⟩ := hki p hp'
    obtain ⟨b, hb, _⟩ := hki q hq'
    rw [ha, hb] at e ⊢
    exact congrArg _ e
  have hmem : ∀ x, x ∈ intKeys (.map es : DU) ↔ (I64 x ∧ 0 < T x) := fun x => by
    show (x ∈ es.map fun p => _root_.Go.intOf p.1) ↔ _
    rw [List.mem_map]
    constructor
    · rintro ⟨p, hp', rfl⟩
      obtain ⟨a, ha, hw⟩ := hki p hp'
      have hi := I64.of_wf hw
      have hh := hD.has a hi
      rw [ha]
      refine ⟨hi, of_decide_eq_true (hh.symm.trans ?_)⟩
      rw [has_eq, List.any_eq_true]
      exact ⟨p, hp', by rw [ha]; simp [Lit.sameKey]⟩
    · rintro ⟨hi, h0⟩
      have hh := hD.has x hi
      rw [decide_eq_true h0, has_eq, List.any_eq_true] at hh
      obtain ⟨p, hp', hs⟩ := hh
      obtain ⟨a, ha, _⟩ := hki p hp'
      rw [ha] at hs
      exact ⟨p, hp', by rw [ha]; simpa [Lit.sameKey, _root_.Go.intOf] using hs⟩
  have tr : ∀ a b c : Int, leI a b = true → leI b c = true → leI a c = true := fun a b c h1 h2 => by simp only [leI, decide_eq_true_eq] at *; omega
  have to : ∀ a b : Int, (leI a b || leI b a) = true := fun a b => by simp only [leI, Bool.or_eq_true, decide_eq_true_eq]; omega
  have hpm := (List.mergeSort_perm ss leI).trans hp
  refine ⟨⟨?_, fun x => (hpm.mem_iff).trans (hmem x)⟩, ?_⟩
  · have h1 := List.pairwise_mergeSort tr to ss
    have h2 : (ss.mergeSort leI).Nodup := hpm.nodup_iff.2 hnd
    refine (h1.and h2).imp fun {a b} h => ?_
    have h3 := h.1
    simp only [leI, decide_eq_true_eq] at h3
    have h4 : a ≠ b := h.2
    omega
  · rw [hp.length_eq, ← hD.size]
    show (es.map fun p => _root_.Go.intOf p.1).length = _
    rw [List.length_map]
    rfl

/-- What slices.Sorted hands back where no sector has a turn. -/
def SortedNone (w : World) (T : Int → Int) (e : Ending) (w' : World) : Prop :=
  e = .returned (.slice none 0 0) ∧ Rising T [] ∧ Below w.heap.size w w'

/-- .. where some have. -/
def SortedSome (w : World) (T : Int → Int) (c : Nat) (e : Ending) (w' : World) : Prop :=
  ∃ g cap L, e = .returned (.slice (some ⟨g, 0, none⟩) c cap) ∧ Rising T L ∧ L.length = c ∧ w.heap.size ≤ g ∧ g < w'.heap.size ∧ (∀ i x, L[i]? = some x → w'.cell? ⟨g, i, none⟩ = some (.int .i64 x)) ∧ Below w.heap.size w w'

set_option maxHeartbeats 1000000 in
theorem sorted_call (w : World) {b n : Nat} {T : Int → Int} {c : Nat} (h : TurnMap w b n T c) (hc : c ≤ 1000000000) :
    Calls Tryz.prog 38 #[.func (.func 58) #[] #[.pointer (some ⟨w.heap.size, 0, none⟩)]] (w.alloc (.cells #[.map (some b)] 64)) fun e w' => ∃ v L, e = .returned v ∧ Rising T L ∧ L.length = c ∧
      w'.ownsRow (w.alloc (.cells #[.map (some b)] 64)).heap.size 3 1 v L.length (L.map (Value.int .i64)) ∧ (v = .slice none 0 0 ↔ L = []) ∧ Below (w.alloc (.cells #[.map (some b)] 64)).heap.size (w.alloc (.cells #[.map (some b)] 64)) w' := by
  obtain ⟨D, hown, hD⟩ := h
  have hown1 := hown.alloc (.cells #[.map (some b)] 64)
  have hm1 : (w.alloc (.cells #[.map (some b)] 64)).cell? ⟨w.heap.size, 0, none⟩ = some (.map (some b)) := by
    rw [cellAt (heap_alloc_new w (.cells #[.map (some b)] 64))]
    rfl
  have hseq : SeqGives Fence.wide 2 Tryz.prog 58 #[.pointer (some ⟨w.heap.size, 0, none⟩)] encZ (fun ss => ss.Perm (intKeys D)) (Maps.size D) (w.alloc (.cells #[.map (some b)] 64)) :=
    AnyZI.keys_gives (ρ := Tryz.keysA_ren) { Tryz.keysA with } Fence.wide _ trivial rfl (by omega) w.heap.size b n D _ (by simp) hm1 hown1
  have hsz := hD.size
  have cS := AnyZI.sorted_in Tryz.sortedA Fence.wide 5 trivial trivial trivial trivial rfl (by omega) (sortsA _) (enters_of Tryz.func57 (by kernel_rfl) rfl) 58 #[.pointer (some ⟨w.heap.size, 0, none⟩)] trivial (enters_of Tryz.func58 (by kernel_rfl) rfl) _ _ (by rw [hsz]; unfold maxLen; omega) (by rw [hsz]; omega) _ hseq
  change CallsIn _ _ Tryz.prog 38 _ _ _ at cS
  refine ((callsIn_wide (n := 5)).1 cS).mono ?_
  rintro e w' ⟨v, ss, rfl, hS, hrow, hnil, hb⟩
  obtain ⟨hr, hl⟩ := rising_of hown hD hS
  refine ⟨v, _, rfl, hr, by rw [List.length_mergeSort, hl], by rw [List.length_mergeSort]; exact hrow, ?_, hb⟩
  rw [hnil, ← List.length_eq_zero_iff, ← List.length_eq_zero_iff, List.length_mergeSort]

theorem sorted_none (w : World) {b n : Nat} {T : Int → Int} (h : TurnMap w b n T 0) :
    Calls Tryz.prog 38 #[.func (.func 58) #[] #[.pointer (some ⟨w.heap.size, 0, none⟩)]] (w.alloc (.cells #[.map (some b)] 64)) fun e w' => SortedNone (w.alloc (.cells #[.map (some b)] 64)) T e w' := by
  refine (sorted_call w h (by omega)).mono ?_
  rintro e w' ⟨v, L, rfl, hr, hl, _, hn, hB⟩
  obtain rfl := List.eq_nil_of_length_eq_zero hl
  exact ⟨by rw [hn.2 rfl], hr, hB⟩

theorem sorted_some (w : World) {b n : Nat} {T : Int → Int} {c : Nat} (h : TurnMap w b n T c) (hc0 : 0 < c) (hc : c ≤ 1000000000) :
    Calls Tryz.prog 38 #[.func (.func 58) #[] #[.pointer (some ⟨w.heap.size, 0, none⟩)]] (w.alloc (.cells #[.map (some b)] 64)) fun e w' => SortedSome (w.alloc (.cells #[.map (some b)] 64)) T c e w' := by
  refine (sorted_call w h hc).mono ?_
  rintro e w' ⟨v, L, rfl, hr, hl, hrow, hn, hB⟩
  rcases hrow.2 with ⟨rfl, h0⟩ | ⟨g, cap, cur, rfl, hg, hh, _, _, _, hx⟩
  · omega
  · refine ⟨g, cap, L, by rw [hl], hr, hl, hg, (Array.getElem?_eq_some_iff.1 hh).1, fun i x hi => ?_, hB⟩
    rw [cellAt hh, ← Array.getElem?_toList]
    have h1 : (cur.toList.take (L.length * 1))[i]? = some (.int .i64 x) := by rw [hx, List.getElem?_map, hi]; rfl
    rw [List.getElem?_take] at h1
    split at h1
    · exact h1
    · cases h1

end Go.Proofs.YtflapnbpaodhaaaGreatDoor

/-
  Crash.
-/


namespace Go.Proofs.YtflapnbpaodhaaaGreatDoor
set_option maxRecDepth 100000
open Go.RowKit Go.Maps

/-- Which of a sector's values a crash leaves: the j-th pick, modulo how many there are; without one: the first. -/
def pickOf (picks : List Int) (j : Nat) (m : Int) : Int :=
  match picks[j]? with
  | some p => amongZ p m
  | none => 0

theorem pickOf_in (picks : List Int) (j : Nat) {m : Int} (h1 : 1 ≤ m) (h2 : m ≤ 9223372036854775807) : 0 ≤ pickOf picks j m ∧ pickOf picks j m < m := by
  unfold pickOf
  split
  · exact amongZ_in h1 h2
  · omega

/-- What Crash leaves. -/
def CrashPost (w : World) (pb : Nat) (N : Int) (bv : Nat) (ops : Int) (n c : Nat) (V : Int → Int → List UInt8) (T : Int → Int) (picks : List Int) (w' : World) : Prop :=
  ∃ bt' V' L, Rising T L ∧ L.length = c ∧ Blk w' pb N bv bt' ops (-1) false ∧ w.heap.size ≤ bt' ∧ SecMap w' bv n V' ∧
    (∀ i s, L[i]? = some s → V' s 0 = V s (pickOf picks i (T s + 1))) ∧ (∀ s, s ∉ L → V' s 0 = V s 0) ∧ TurnMap w' bt' 0 (fun _ => 0) 0 ∧ Fr (fun i => i = pb ∨ i = bv) w w'

/-- How the crash stands when i of the sectors are settled. -/
structure CrAt (w : World) (bv nv c : Nat) (V : Int → Int → List UInt8) (T : Int → Int) (L picks : List Int) (i n : Nat) (V' : Int → Int → List UInt8) (wr : World) : Prop where
  fr : Fr (· = bv) w wr
  map : SecMap wr bv n V'
  le : n + (c - i) ≤ nv + c
  done : ∀ j s, j < i → L[j]? = some s → V' s 0 = V s (pickOf picks j (T s + 1))
  rest : ∀ s, (∀ j, j < i → L[j]? ≠ some s) → ∀ t, V' s t = V s t

theorem CrAt.start {w : World} {bv nv c : Nat} {V : Int → Int → List UInt8} {T : Int → Int} {L picks : List Int} (hv : SecMap w bv nv V) {w' : World} (hF : Fr (fun _ => False) w w') : CrAt w bv nv c V T L picks 0 nv V w' :=
  ⟨hF.mono (fun _ _ e => e.elim), hv.kept hF id, by omega, fun j s hj => by omega, fun _ _ _ => rfl⟩

theorem CrAt.step {w : World} {bv nv c : Nat} {V V' : Int → Int → List UInt8} {T : Int → Int} {L picks : List Int} {i n : Nat} {wr w1 : World} (h : CrAt w bv nv c V T L picks i n V' wr) (hL : L.Pairwise (· < ·)) (hi : i < c) {x : Int} (hx : L[i]? = some x)
    (h1 : SecMap w1 bv (n + 1) (settleV V' x (pickOf picks i (T x + 1)) (T x))) (hF : Fr (· = bv) w w1) : CrAt w bv nv c V T L picks (i + 1) (n + 1) (settleV V' x (pickOf picks i (T x + 1)) (T x)) w1 := by
  have hnd : ∀ j, L[j]? = some x → j = i := fun j hj => by
    obtain ⟨h3, h4⟩ := List.getElem?_eq_some_iff.1 hj
    obtain ⟨h5, h6⟩ := List.getElem?_eq_some_iff.1 hx
    rcases Nat.lt_trichotomy j i with hlt | he | hlt
    · have := List.pairwise_iff_getElem.1 hL j i h3 h5 hlt
      omega
    · exact he
    · have := List.pairwise_iff_getElem.1 hL i j h5 h3 hlt
      omega
  refine ⟨hF, h1, by have := h.le; omega, fun j s hj hs => ?_, fun s hs t => ?_⟩
  · by_cases hji : j = i
    · subst hji
      obtain rfl : x = s := by rw [hx] at hs; exact Option.some.inj hs
      rw [settleV_same]
      exact h.rest x (fun j' hj' e => by have := hnd j' e; omega) _
    · have hne : s ≠ x := fun e => hji (hnd j (e ▸ hs))
      rw [settleV_other hne]
      exact h.done j s (by omega) hs
  · have hne : s ≠ x := fun e => hs i (by omega) (e ▸ hx)
    rw [settleV_other hne]
    exact h.rest s (fun j hj => hs j (by omega)) t

theorem crash_end {w wr : World} {pb : Nat} {N : Int} {bv bt n m c : Nat} {ops lim : Int} {dk : Bool} {V V' : Int → Int → List UInt8} {T : Int → Int} {L picks : List Int} (hb : Blk wr pb N bv bt ops lim dk) (hm : SecMap wr bv n V') (hn : n ≤ m) (hR : Rising T L) (hL : L.length = c)
    (h1 : ∀ i s, L[i]? = some s → V' s 0 = V s (pickOf picks i (T s + 1))) (h2 : ∀ s, s ∉ L → V' s 0 = V s 0) (hF : Fr (fun i => i = pb ∨ i = bv) w wr) (hne : bv ≠ pb) :
    CrashPost w pb N bv ops m c V T picks ((((wr.alloc (.map #[] 0)).setCell ⟨pb, 2, none⟩ (.map (some wr.heap.size))).setCell ⟨pb, 4, none⟩ (.int .i64 (-1))).setCell ⟨pb, 5, none⟩ (.bool false)) := by
  have hA : Fr (fun _ => False) wr (wr.alloc (.map #[] 0)) := (Fr.refl _ wr).alloc _
  have hb1 := hb.kept hA id
  have hS : Fr (· = pb) (wr.alloc (.map #[] 0)) ((((wr.alloc (.map #[] 0)).setCell ⟨pb, 2, none⟩ (.map (some wr.heap.size))).setCell ⟨pb, 4, none⟩ (.int .i64 (-1))).setCell ⟨pb, 5, none⟩ (.bool false)) :=
    (((Fr.refl (· = pb) _).setCell (p := ⟨pb, 2, none⟩) (Or.inl rfl) _).setCell (p := ⟨pb, 4, none⟩) (Or.inl rfl) _).setCell (p := ⟨pb, 5, none⟩) (Or.inl rfl) _
  refine ⟨wr.heap.size, V', L, hR, hL, ((hb1.set2 _).set4 _).set5 _, hF.size, ((hm.kept hA id).kept hS hne).mono hn, h1, h2, (TurnMap.made wr).kept hS (fun e => ?_), ?_⟩
  · have := hb.lt
    omega
  · exact (hF.trans hA (fun _ _ e => e.elim)).trans hS (fun i _ e => Or.inl e)

/-- The block as the tail of Crash meets it. -/
theorem crash_tail_facts {wr : World} {pb : Nat} {N : Int} {bv bt : Nat} {ops lim : Int} {dk : Bool} (hb : Blk wr pb N bv bt ops lim dk) :
    ((wr.alloc (.map #[] 0)).cell? ⟨pb, 2, none⟩ = some (.map (some bt)) ∧ (wr.alloc (.map #[] 0)).frozen? ⟨pb, 2, none⟩ = false) ∧
    (((wr.alloc (.map #[] 0)).setCell ⟨pb, 2, none⟩ (.map (some wr.heap.size))).cell? ⟨pb, 4, none⟩ = some (.int .i64 lim) ∧ ((wr.alloc (.map #[] 0)).setCell ⟨pb, 2, none⟩ (.map (some wr.heap.size))).frozen? ⟨pb, 4, none⟩ = false) ∧
    ((((wr.alloc (.map #[] 0)).setCell ⟨pb, 2, none⟩ (.map (some wr.heap.size))).setCell ⟨pb, 4, none⟩ (.int .i64 (-1))).cell? ⟨pb, 5, none⟩ = some (.bool dk) ∧ (((wr.alloc (.map #[] 0)).setCell ⟨pb, 2, none⟩ (.map (some wr.heap.size))).setCell ⟨pb, 4, none⟩ (.int .i64 (-1))).frozen? ⟨pb, 5, none⟩ = false) := by
  have hA : Fr (fun _ => False) wr (wr.alloc (.map #[] 0)) := (Fr.refl _ wr).alloc _
  have hb1 := hb.kept hA id
  have hb2 := hb1.set2 wr.heap.size
  have hb3 := hb2.set4 (-1)
  exact ⟨⟨hb1.c2, hb1.free 2⟩, ⟨hb2.c4, hb2.free 4⟩, ⟨hb3.c5, hb3.free 5⟩⟩

set_option maxRecDepth 100000 in
set_option maxHeartbeats 1000000 in
theorem crash_zero (w : World) {pb bv bt nv nt : Nat} {N ops lim : Int} {dk : Bool} {V : Int → Int → List UInt8} {T : Int → Int} (h : DiskAt w pb bv bt nv nt 0 N ops lim dk V T) (hN : 0 < N) (picks : List Int) (p : Option Addr) (len cap : Nat) :
    Calls Tryz.prog 13 #[.pointer (some ⟨pb, 0, none⟩), .slice p len cap] w fun e w' => e = .returned (.int .i64 0) ∧ CrashPost w pb N bv ops nv 0 V T picks w' := by
  have c0 := h.blk.c0
  have c2 := h.blk.c2
  have HM := Lib.hid (made_yes pb N w c0 hN)
  have HK := Lib.hid (keys_call w bt)
  have HS := Lib.hid (sorted_none w h.turn)
  have HH := Lib.hid h
  have HE : Hid (∀ w2, Below (w.alloc (.cells #[.map (some bt)] 64)).heap.size (w.alloc (.cells #[.map (some bt)] 64)) w2 → Blk w2 pb N bv bt ops lim dk ∧ (Rising T [] → CrashPost w pb N bv ops nv 0 V T picks ((((w2.alloc (.map #[] 0)).setCell ⟨pb, 2, none⟩ (.map (some w2.heap.size))).setCell ⟨pb, 4, none⟩ (.int .i64 (-1))).setCell ⟨pb, 5, none⟩ (.bool false)))) := fun w2 hB => by
    have hF1 : Fr (fun _ => False) w (w.alloc (.cells #[.map (some bt)] 64)) := (Fr.refl _ w).alloc _
    have hF2 : Fr (fun _ => False) w w2 := hF1.trans (S' := fun _ => False) ⟨hB.os, hB.tape, hB.output, hB.size, fun i hi _ => hB.block i hi⟩ (fun _ _ e => e)
    have h2 := h.kept hF2 id id id
    exact ⟨h2.blk, fun hR => crash_end h2.blk h2.sec (Nat.le_refl _) hR rfl (fun i s hi => by simp at hi) (fun _ _ => rfl) (hF2.mono (fun _ _ e => e.elim)) (h.sec.ne_blk h.blk)⟩
  clear h
  have hmm := @run_makeMap Tryz.prog
  go_enter Tryz.func13, Tryz.ntmps13
  go_wp2_with (first
    | (go_at_call 29; refine (HM.out).mono ?_; rintro e w' ⟨rfl, rfl⟩)
    | (go_at_call 39; refine (HK.out).mono ?_; rintro e w' ⟨rfl, rfl⟩)
    | (go_at_call 38; refine (HS.out).mono ?_; rintro e w2 ⟨rfl, hR, hB⟩; have HE2 := Lib.hid ((HE.out w2 hB).2 hR); obtain ⟨⟨t1, t2⟩, ⟨t3, t4⟩, ⟨t5, t6⟩⟩ := crash_tail_facts (HE.out w2 hB).1; clear hR hB))
  refine wp_loop_rounds 1 ?_
  rw [rounds_succ]
  go_wp2
  go_ret
  exact ⟨rfl, HE2.out⟩

set_option maxRecDepth 100000 in
set_option maxHeartbeats 2000000 in
theorem crash_none (w : World) {pb bv bt nv nt c : Nat} {N ops lim : Int} {dk : Bool} {V : Int → Int → List UInt8} {T : Int → Int} (h : DiskAt w pb bv bt nv nt c N ops lim dk V T) (hN : 0 < N) (hc0 : 0 < c) (hc : c ≤ 1000000000) (hnv : nv + c < 1000000000000) (hT : ∀ s, I64 s → 0 ≤ T s ∧ T s ≤ 1000000000000)
    (p : Option Addr) (cap : Nat) :
    Calls Tryz.prog 13 #[.pointer (some ⟨pb, 0, none⟩), .slice p 0 cap] w fun e w' => e = .returned (.int .i64 0) ∧ CrashPost w pb N bv ops (nv + c) c V T [] w' := by
  have c0 := h.blk.c0
  have c2 := h.blk.c2
  have HM := Lib.hid (made_yes pb N w c0 hN)
  have HK := Lib.hid (keys_call w bt)
  have HS := Lib.hid (sorted_some w h.turn hc0 hc)
  have HTB := Lib.hid hT
  have HNE := Lib.hid (show bv ≠ bt ∧ bt ≠ pb ∧ bv ≠ pb ∧ pb ≠ bv from ⟨h.ne, h.turn.ne_blk h.blk, h.sec.ne_blk h.blk, Ne.symm (h.sec.ne_blk h.blk)⟩)
  have HVLT := Lib.hid h.sec.lt
  have HF : Hid (∀ w2, Below (w.alloc (.cells #[.map (some bt)] 64)).heap.size (w.alloc (.cells #[.map (some bt)] 64)) w2 → Fr (fun _ => False) w w2 ∧ DiskAt w2 pb bv bt nv nt c N ops lim dk V T) := fun w2 hB => by
    have hF1 : Fr (fun _ => False) w (w.alloc (.cells #[.map (some bt)] 64)) := (Fr.refl _ w).alloc _
    have hF2 : Fr (fun _ => False) w w2 := hF1.trans (S' := fun _ => False) ⟨hB.os, hB.tape, hB.output, hB.size, fun i hi _ => hB.block i hi⟩ (fun _ _ e => e)
    exact ⟨hF2, h.kept hF2 id id id⟩
  
  clear h hT
  have hmm := @run_makeMap Tryz.prog
  go_enter Tryz.func13, Tryz.ntmps13
  go_wp2_with (first
    | (go_at_call 29; refine (HM.out).mono ?_; rintro e w' ⟨rfl, rfl⟩)
    | (go_at_call 39; refine (HK.out).mono ?_; rintro e w' ⟨rfl, rfl⟩)
    | (go_at_call 38; refine (HS.out).mono ?_; rintro e w2 ⟨g, gcap, L, rfl, hR, hL, hg1, hg2, hcell, hB⟩; have HR := Lib.hid hR; have HL := Lib.hid hL; have HG := Lib.hid (show w.heap.size ≤ g ∧ g < w2.heap.size from ⟨by simp at hg1; omega, hg2⟩); have HCELL := Lib.hid hcell; have HD2 := Lib.hid (HF.out w2 hB); clear hR hL hg1 hg2 hcell hB))
  have HC0 : Hid (CrAt w2 bv nv c V T L [] 0 nv V w2) := CrAt.start HD2.out.2.sec (Fr.refl _ _)
  clear c2
  go_loopw [18] (fun i wr => ∃ (k n : Nat) (V' : Int → Int → List UInt8), k ≤ c ∧ i = .int .i64 k ∧ Hid (CrAt w2 bv nv c V T L [] k n V' wr)) (fun i _ => c - (intOf i).toNat)
  case atStart => exact ⟨0, nv, V, Nat.zero_le _, rfl, HC0⟩
  case round =>
    obtain ⟨k, n, V', hk, rfl, HA⟩ := hrel
    have HD := Lib.hid (show Blk wr pb N bv bt ops lim dk ∧ TurnMap wr bt nt T c from ⟨HD2.out.2.blk.kept HA.out.fr HNE.out.2.2.2, HD2.out.2.turn.kept HA.out.fr (Ne.symm HNE.out.1)⟩)
    by_cases hlt : k < c
    · obtain ⟨x, hx⟩ : ∃ x, L[k]? = some x := ⟨_, List.getElem?_eq_getElem (by rw [HL.out]; exact hlt)⟩
      have hxm := (HR.out.mem x).1 (List.mem_of_getElem? hx)
      have hxi := hxm.1
      have hT1 := (HTB.out x hxi).2
      have hT0 := hxm.2
      have hd : wr.cell? ⟨g, k, none⟩ = some (.int .i64 x) := (World.cell?_of_block (w := w2) (w' := wr) (HA.out.fr.block g HG.out.2 (fun e => by have := HG.out.1; have := HVLT.out; omega))).trans (HCELL.out k x hx)
      have HX := Lib.hid hx
      have h0 : (0 : Int) ≤ k := by omega
      have h1 : (k : Int) < c := by omega
      clear hx hxm
      have hturn : pickOf [] k (T x + 1) = 0 := rfl
      have HST := Lib.hid (settle_any wr HD.out.1 HA.out.map HD.out.2 HNE.out.1 x 0 hxi I64.zero (by omega) hT1 (by have := HA.out.le; omega))
      have HK5 : Hid (∀ w5, SecMap w5 bv (n + 1) (settleV V' x 0 (T x)) → Fr (· = bv) wr w5 → CrAt w2 bv nv c V T L [] (k + 1) (n + 1) (settleV V' x 0 (T x)) w5) := fun w5 h5 hF5 =>
        HA.out.step HR.out.sorted hlt HX.out h5 (HA.out.fr.trans hF5 (fun _ _ e => e))
      clear hturn
      go_wp2_with (first
        | (go_at_call 40; refine (HST.out).mono ?_; rintro e w5 ⟨rfl, h5, hF5⟩; have HA5 := Lib.hid (HK5.out w5 h5 hF5); clear h5 hF5))
      go_roundw
      case rel => exact ⟨k + 1, n + 1, _, by omega, by go_num, HA5⟩
      case measure => simp [intOf]; omega
    · have hkc : k = c := by omega
      subst hkc
      have HE2 := Lib.hid (crash_end (w := w) HD.out.1 HA.out.map (m := nv + k) (by have := HA.out.le; omega) HR.out HL.out (fun i s hi => HA.out.done i s (by rw [← HL.out]; exact (List.getElem?_eq_some_iff.1 hi).1) hi) (fun s hs => HA.out.rest s (fun j _ e => hs (List.mem_of_getElem? e)) 0)
        ((HD2.out.1.mono (S := fun i => i = pb ∨ i = bv) (fun _ _ e => e.elim)).trans HA.out.fr (fun _ _ e => Or.inr e)) HNE.out.2.2.1)
      obtain ⟨⟨t1, t2⟩, ⟨t3, t4⟩, ⟨t5, t6⟩⟩ := crash_tail_facts HD.out.1
      go_wp2
      go_ret
      exact ⟨rfl, HE2.out⟩

set_option maxRecDepth 100000 in
set_option maxHeartbeats 2000000 in
theorem crash_some (w : World) {pb bv bt nv nt c : Nat} {N ops lim : Int} {dk : Bool} {V : Int → Int → List UInt8} {T : Int → Int} (h : DiskAt w pb bv bt nv nt c N ops lim dk V T) (hN : 0 < N) (hc0 : 0 < c) (hc : c ≤ 1000000000) (hnv : nv + c < 1000000000000) (hT : ∀ s, I64 s → 0 ≤ T s ∧ T s ≤ 1000000000000)
    (picks : List Int) (blk off cap : Nat) (hpl : picks.length ≤ 9223372036854775807) (hblk : picks ≠ [] → blk < w.heap.size ∧ blk ≠ bv) (hpc : ∀ j x, picks[j]? = some x → w.cell? ⟨blk, off + j, none⟩ = some (.int .i64 x)) :
    Calls Tryz.prog 13 #[.pointer (some ⟨pb, 0, none⟩), .slice (some ⟨blk, off, none⟩) picks.length cap] w fun e w' => e = .returned (.int .i64 0) ∧ CrashPost w pb N bv ops (nv + c) c V T picks w' := by
  have c0 := h.blk.c0
  have c2 := h.blk.c2
  have HM := Lib.hid (made_yes pb N w c0 hN)
  have HK := Lib.hid (keys_call w bt)
  have HS := Lib.hid (sorted_some w h.turn hc0 hc)
  have HTB := Lib.hid hT
  have HNE := Lib.hid (show bv ≠ bt ∧ bt ≠ pb ∧ bv ≠ pb ∧ pb ≠ bv from ⟨h.ne, h.turn.ne_blk h.blk, h.sec.ne_blk h.blk, Ne.symm (h.sec.ne_blk h.blk)⟩)
  have HVLT := Lib.hid h.sec.lt
  have HF : Hid (∀ w2, Below (w.alloc (.cells #[.map (some bt)] 64)).heap.size (w.alloc (.cells #[.map (some bt)] 64)) w2 → Fr (fun _ => False) w w2 ∧ DiskAt w2 pb bv bt nv nt c N ops lim dk V T) := fun w2 hB => by
    have hF1 : Fr (fun _ => False) w (w.alloc (.cells #[.map (some bt)] 64)) := (Fr.refl _ w).alloc _
    have hF2 : Fr (fun _ => False) w w2 := hF1.trans (S' := fun _ => False) ⟨hB.os, hB.tape, hB.output, hB.size, fun i hi _ => hB.block i hi⟩ (fun _ _ e => e)
    exact ⟨hF2, h.kept hF2 id id id⟩
  have HPC := Lib.hid hpc
  have HBLK := Lib.hid hblk
  obtain ⟨m, hm⟩ : ∃ m, m = picks.length := ⟨_, rfl⟩
  have hm1 : m ≤ 9223372036854775807 := by omega
  rw [← hm]
  have HMM := Lib.hid hm
  clear hpc hblk hm hpl
  clear h hT
  have hmm := @run_makeMap Tryz.prog
  go_enter Tryz.func13, Tryz.ntmps13
  go_wp2_with (first
    | (go_at_call 29; refine (HM.out).mono ?_; rintro e w' ⟨rfl, rfl⟩)
    | (go_at_call 39; refine (HK.out).mono ?_; rintro e w' ⟨rfl, rfl⟩)
    | (go_at_call 38; refine (HS.out).mono ?_; rintro e w2 ⟨g, gcap, L, rfl, hR, hL, hg1, hg2, hcell, hB⟩; have HR := Lib.hid hR; have HL := Lib.hid hL; have HG := Lib.hid (show w.heap.size ≤ g ∧ g < w2.heap.size from ⟨by simp at hg1; omega, hg2⟩); have HCELL := Lib.hid hcell; have HD2 := Lib.hid (HF.out w2 hB); clear hR hL hg1 hg2 hcell hB))
  have HC0 : Hid (CrAt w2 bv nv c V T L picks 0 nv V w2) := CrAt.start HD2.out.2.sec (Fr.refl _ _)
  clear c2
  go_loopw [18] (fun i wr => ∃ (k n : Nat) (V' : Int → Int → List UInt8), k ≤ c ∧ i = .int .i64 k ∧ Hid (CrAt w2 bv nv c V T L picks k n V' wr)) (fun i _ => c - (intOf i).toNat)
  case atStart => exact ⟨0, nv, V, Nat.zero_le _, rfl, HC0⟩
  case round =>
    obtain ⟨k, n, V', hk, rfl, HA⟩ := hrel
    have HD := Lib.hid (show Blk wr pb N bv bt ops lim dk ∧ TurnMap wr bt nt T c from ⟨HD2.out.2.blk.kept HA.out.fr HNE.out.2.2.2, HD2.out.2.turn.kept HA.out.fr (Ne.symm HNE.out.1)⟩)
    by_cases hlt : k < c
    · obtain ⟨x, hx⟩ : ∃ x, L[k]? = some x := ⟨_, List.getElem?_eq_getElem (by rw [HL.out]; exact hlt)⟩
      have hxm := (HR.out.mem x).1 (List.mem_of_getElem? hx)
      have hxi := hxm.1
      have hT1 := (HTB.out x hxi).2
      have hT0 := hxm.2
      have hd : wr.cell? ⟨g, k, none⟩ = some (.int .i64 x) := (World.cell?_of_block (w := w2) (w' := wr) (HA.out.fr.block g HG.out.2 (fun e => by have := HG.out.1; have := HVLT.out; omega))).trans (HCELL.out k x hx)
      have HX := Lib.hid hx
      have h0 : (0 : Int) ≤ k := by omega
      have h1 : (k : Int) < c := by omega
      clear hx hxm
      by_cases hkm : k < m
      · obtain ⟨y, hy⟩ : ∃ y, picks[k]? = some y := ⟨_, List.getElem?_eq_getElem (by have := HMM.out; omega)⟩
        have hne : picks ≠ [] := fun e => by rw [e] at hy; simp at hy
        have hd2 : wr.cell? ⟨blk, off + k, none⟩ = some (.int .i64 y) :=
          ((World.cell?_of_block (w := w2) (w' := wr) (HA.out.fr.block blk (Nat.lt_of_lt_of_le (HBLK.out hne).1 HD2.out.1.size) (HBLK.out hne).2)).trans (World.cell?_of_block (w := w) (w' := w2) (HD2.out.1.block blk (HBLK.out hne).1 id))).trans (HPC.out k y hy)
        have hturn : pickOf picks k (T x + 1) = wrap64 ((IntKind.u64.wrap y).tmod (T x + 1)) := by unfold pickOf; rw [hy]; rfl
        have hti : I64 (wrap64 ((IntKind.u64.wrap y).tmod (T x + 1))) := by
          have := pickOf_in picks k (m := T x + 1) (by omega) (by omega)
          rw [hturn] at this
          constructor <;> omega
        have HST := Lib.hid (fun j => settle_any (wr.drewN j) (HD.out.1.kept ((Fr.refl (fun _ => False) wr).drewN j) id) (HA.out.map.kept ((Fr.refl (fun _ => False) wr).drewN j) id) (HD.out.2.kept ((Fr.refl (fun _ => False) wr).drewN j) id) HNE.out.1 x (wrap64 ((IntKind.u64.wrap y).tmod (T x + 1))) hxi hti (by omega) hT1 (by have := HA.out.le; omega))
        have HK5 : Hid (∀ j w5, SecMap w5 bv (n + 1) (settleV V' x (wrap64 ((IntKind.u64.wrap y).tmod (T x + 1))) (T x)) → Fr (· = bv) (wr.drewN j) w5 → CrAt w2 bv nv c V T L picks (k + 1) (n + 1) (settleV V' x (wrap64 ((IntKind.u64.wrap y).tmod (T x + 1))) (T x)) w5) := fun j w5 h5 hF5 => by
          have := HA.out.step HR.out.sorted hlt HX.out (w1 := w5) (picks := picks) (by rw [hturn]; exact h5) ((HA.out.fr.drewN j).trans hF5 (fun _ _ e => e))
          rw [hturn] at this
          exact this
        have c2 := HD.out.1.c2
        have hlook := fun j => ((HD.out.2.kept ((Fr.refl (fun _ => False) wr).drewN j) id).look hxi).1
        have h2 : (k : Int) < m := by omega
        clear hturn hti hy hne
        go_wp2_with fail
        go_quiet (fail)
        go_wp2_with (first
          | (go_at_call 40; refine (HST.out _).mono ?_; rintro e w5 ⟨rfl, h5, hF5⟩; have HA5 := Lib.hid (HK5.out _ w5 h5 hF5); clear h5 hF5))
        go_roundw
        case rel => exact ⟨k + 1, n + 1, _, by omega, by go_num, HA5⟩
        case measure => simp [intOf]; omega
      · have hnone : picks[k]? = none := List.getElem?_eq_none (by have := HMM.out; omega)
        have hturn : pickOf picks k (T x + 1) = 0 := by unfold pickOf; rw [hnone]
        have HST := Lib.hid (settle_any wr HD.out.1 HA.out.map HD.out.2 HNE.out.1 x 0 hxi I64.zero (by omega) hT1 (by have := HA.out.le; omega))
        have HK5 : Hid (∀ w5, SecMap w5 bv (n + 1) (settleV V' x 0 (T x)) → Fr (· = bv) wr w5 → CrAt w2 bv nv c V T L picks (k + 1) (n + 1) (settleV V' x 0 (T x)) w5) := fun w5 h5 hF5 => by
          have := HA.out.step HR.out.sorted hlt HX.out (w1 := w5) (picks := picks) (by rw [hturn]; exact h5) (HA.out.fr.trans hF5 (fun _ _ e => e))
          rw [hturn] at this
          exact this
        clear hturn hnone
        go_wp2_with (first
          | (go_at_call 40; refine (HST.out).mono ?_; rintro e w5 ⟨rfl, h5, hF5⟩; have HA5 := Lib.hid (HK5.out w5 h5 hF5); clear h5 hF5))
        go_roundw
        case rel => exact ⟨k + 1, n + 1, _, by omega, by go_num, HA5⟩
        case measure => simp [intOf]; omega
    · have hkc : k = c := by omega
      subst hkc
      have HE2 := Lib.hid (crash_end (w := w) HD.out.1 HA.out.map (m := nv + k) (by have := HA.out.le; omega) HR.out HL.out (fun i s hi => HA.out.done i s (by rw [← HL.out]; exact (List.getElem?_eq_some_iff.1 hi).1) hi) (fun s hs => HA.out.rest s (fun j _ e => hs (List.mem_of_getElem? e)) 0)
        ((HD2.out.1.mono (S := fun i => i = pb ∨ i = bv) (fun _ _ e => e.elim)).trans HA.out.fr (fun _ _ e => Or.inr e)) HNE.out.2.2.1)
      obtain ⟨⟨t1, t2⟩, ⟨t3, t4⟩, ⟨t5, t6⟩⟩ := crash_tail_facts HD.out.1
      go_wp2
      go_ret
      exact ⟨rfl, HE2.out⟩

end Go.Proofs.YtflapnbpaodhaaaGreatDoor

/-
  A disk with its bounds; its calls on it.
-/
namespace Go.Proofs.YtflapnbpaodhaaaGreatDoor
set_option maxRecDepth 100000
open Go.RowKit Go.Maps

/-- A disk of N sectors, its numbers at most B. -/
structure Good (w : World) (pb bv bt N B c : Nat) (ops lim : Int) (dk : Bool) (V : Int → Int → List UInt8) (T : Int → Int) : Prop where
  disk : ∃ nv nt, DiskAt w pb bv bt nv nt c N ops lim dk V T ∧ nv + c ≤ B ∧ nt ≤ B
  n0 : 1 ≤ N
  n1 : N ≤ 4096
  small : B ≤ 100000000
  turns : ∀ s, I64 s → 0 ≤ T s ∧ T s ≤ B
  out : ∀ s, I64 s → (s < 0 ∨ (N : Int) ≤ s) → T s = 0
  ops0 : 0 ≤ ops
  ops1 : ops ≤ B
  lim0 : -1 ≤ lim
  lim1 : lim ≤ 9223372036854775807

section
variable {w : World} {pb bv bt N B c : Nat} {ops lim : Int} {dk : Bool} {V : Int → Int → List UInt8} {T : Int → Int}

theorem Good.kept {w' : World} (h : Good w pb bv bt N B c ops lim dk V T) {S : Nat → Prop} (hF : Fr S w w') (h1 : ¬ S pb) (h2 : ¬ S bv) (h3 : ¬ S bt) : Good w' pb bv bt N B c ops lim dk V T := by
  obtain ⟨nv, nt, hd, a, b⟩ := h.disk
  exact ⟨⟨nv, nt, hd.kept hF h1 h2 h3, a, b⟩, h.n0, h.n1, h.small, h.turns, h.out, h.ops0, h.ops1, h.lim0, h.lim1⟩

theorem Good.calm {w' : World} (h : Good w pb bv bt N B c ops lim dk V T) (hF : Fr (fun _ => False) w w') : Good w' pb bv bt N B c ops lim dk V T := h.kept hF id id id

theorem Good.lt (h : Good w pb bv bt N B c ops lim dk V T) : pb < w.heap.size ∧ bv < w.heap.size ∧ bt < w.heap.size := by
  obtain ⟨nv, nt, hd, _, _⟩ := h.disk
  exact ⟨hd.blk.lt, hd.sec.lt, hd.turn.lt⟩

theorem Good.len (h : Good w pb bv bt N B c ops lim dk V T) {s t : Int} (hs : I64 s) (ht : I64 t) : (V s t).length = 256 := by
  obtain ⟨nv, nt, hd, _, _⟩ := h.disk
  exact (hd.sec.look hs ht).2

theorem Good.turnI (h : Good w pb bv bt N B c ops lim dk V T) {s : Int} (hs : I64 s) : I64 (T s) := by
  have h1 := h.turns s hs
  have h2 := h.small
  constructor <;> omega

theorem Good.big {B' : Nat} (h : Good w pb bv bt N B c ops lim dk V T) (hB : B ≤ B') (hs : B' ≤ 100000000) : Good w pb bv bt N B' c ops lim dk V T := by
  obtain ⟨nv, nt, hd, a, b⟩ := h.disk
  exact ⟨⟨nv, nt, hd, by omega, by omega⟩, h.n0, h.n1, hs, fun s hs => by have := h.turns s hs; omega, h.out, h.ops0, by have := h.ops1; omega, h.lim0, h.lim1⟩

/-- New. -/
def NewGood (w : World) (N : Nat) (e : Ending) (w' : World) : Prop :=
  ∃ pb bv bt, e = .returned (.tuple #[.pointer (some ⟨pb, 0, none⟩), .int .i64 0]) ∧ Good w' pb bv bt N 0 0 0 (-1) false (fun _ _ => noughts) (fun _ => 0) ∧ w.heap.size ≤ pb ∧ w.heap.size ≤ bv ∧ w.heap.size ≤ bt ∧ Fr (fun _ => False) w w'

theorem new_good (w : World) (N : Nat) (h1 : 1 ≤ N) (h2 : N ≤ 4096) : Calls Tryz.prog 21 #[.int .i64 N] w fun e w' => NewGood w N e w' := by
  refine (new_ok w N (by omega) (by omega)).mono ?_
  rintro e w' ⟨rfl, hd, hF, _⟩
  exact ⟨_, _, _, rfl, ⟨⟨0, 0, hd, by omega, by omega⟩, h1, h2, by omega, fun s hs => by omega, fun _ _ _ => rfl, by omega, by omega, by omega, by omega⟩, by omega, by omega, by omega, hF⟩

/-- A write that is taken. -/
theorem write_good (h : Good w pb bv bt N B c ops lim false V T) (hl : lim ≠ 0) (hB : B + 2 ≤ 100000000) (at_ : Int) (h0 : 0 ≤ at_) (h1 : at_ < N) (blk off cap : Nat) (l : List UInt8) (hlen : l.length = 256) (hblk : blk < w.heap.size) (hr : Reads w blk off l) (hbp : blk ≠ pb) (hbv : blk ≠ bv) (hbt : blk ≠ bt) :
    Calls Tryz.prog 25 #[.pointer (some ⟨pb, 0, none⟩), .int .i64 at_, .slice (some ⟨blk, off, none⟩) 256 cap] w fun e w' => e = .returned (.int .i64 0) ∧
      Good w' pb bv bt N (B + 2) (cntUp (T at_) c) (ops + 1) (lessOne lim) false (upd V at_ (T at_ + 1) l) (updT T at_ (T at_ + 1)) ∧ Fr (fun i => i = pb ∨ i = bv ∨ i = bt) w w' := by
  obtain ⟨nv, nt, hd, ha, hb⟩ := h.disk
  have hn0 := h.n0
  have hn1 := h.n1
  have hs : I64 at_ := by constructor <;> omega
  have ht := h.turns at_ hs
  have ho0 := h.ops0
  have ho1 := h.ops1
  have hcu : cntUp (T at_) c ≤ c + 1 := by unfold cntUp; split <;> omega
  refine (write_ok w hd.blk hd.sec hd.turn (by omega) hd.ne at_ h0 h1 (by omega) hl h.lim0 h.lim1 ho0 (by omega) (by omega) (by omega) ht.1 (by omega) blk off cap l hlen hblk hr hbp hbv hbt).mono ?_
  rintro e w' ⟨rfl, h3, h4, h5, h6⟩
  refine ⟨rfl, ⟨⟨_, _, ⟨h3, h4, h5, hd.ne⟩, by omega, by omega⟩, hn0, hn1, hB, fun s hs' => ?_, fun s hs' ho => ?_, by omega, by omega, ?_, ?_⟩, h6⟩
  · unfold updT
    split
    · omega
    · have := h.turns s hs'
      omega
  · unfold updT
    split
    · omega
    · exact h.out s hs' ho
  · have := h.lim0
    unfold lessOne
    split <;> omega
  · have := h.lim1
    unfold lessOne
    split <;> omega

/-- A sync that is taken. -/
def SyncGood (w : World) (pb bv N B : Nat) (ops lim : Int) (V : Int → Int → List UInt8) (T : Int → Int) (w' : World) : Prop :=
  ∃ bt' V', Good w' pb bv bt' N B 0 ops lim false V' (fun _ => 0) ∧ (∀ s, I64 s → V' s 0 = V s (T s)) ∧ w.heap.size ≤ bt' ∧ Fr (fun i => i = pb ∨ i = bv) w w'

theorem sync_good (h : Good w pb bv bt N B c ops lim false V T) (hl : lim ≠ 0) (hB : B + 2 ≤ 100000000) :
    Calls Tryz.prog 27 #[.pointer (some ⟨pb, 0, none⟩)] w fun e w' => e = .returned (.int .i64 0) ∧ SyncGood w pb bv N (B + 2) (ops + 1) (lessOne lim) V T w' := by
  obtain ⟨nv, nt, hd, ha, hb⟩ := h.disk
  have hn0 := h.n0
  have ho0 := h.ops0
  have ho1 := h.ops1
  refine (sync_ok w hd.blk hd.sec hd.turn (by omega) hd.ne hl h.lim0 h.lim1 ho0 (by omega) (by omega) (fun s hs => by have := h.turns s hs; omega)).mono ?_
  rintro e w' ⟨rfl, bt', V', h3, hlt, h4, h5, h6, h7⟩
  have hvlt := hd.sec.lt
  refine ⟨rfl, bt', V', ⟨⟨_, _, ⟨h3, h4, h6, by omega⟩, by omega, by omega⟩, hn0, h.n1, hB, fun s _ => by omega, fun _ _ _ => rfl, by omega, by omega, ?_, ?_⟩, h5, hlt, h7⟩
  · have := h.lim0
    unfold lessOne
    split <;> omega
  · have := h.lim1
    unfold lessOne
    split <;> omega

/-- A crash. -/
def CrashGood (w : World) (pb bv N B c : Nat) (ops : Int) (V : Int → Int → List UInt8) (T : Int → Int) (picks : List Int) (w' : World) : Prop :=
  ∃ bt' V' L, Good w' pb bv bt' N B 0 ops (-1) false V' (fun _ => 0) ∧ Rising T L ∧ L.length = c ∧ (∀ i s, L[i]? = some s → V' s 0 = V s (pickOf picks i (T s + 1))) ∧ (∀ s, s ∉ L → V' s 0 = V s 0) ∧ w.heap.size ≤ bt' ∧ Fr (fun i => i = pb ∨ i = bv) w w'

/-- What Crash's picks are: a slice of numbers that the disk does not touch. -/
def Picks (w : World) (bv : Nat) (v : Value) (picks : List Int) : Prop :=
  ∃ p cap, v = .slice p picks.length cap ∧ picks.length ≤ 9223372036854775807 ∧ (picks ≠ [] → ∃ blk off, p = some ⟨blk, off, none⟩ ∧ blk < w.heap.size ∧ blk ≠ bv ∧ ∀ j x, picks[j]? = some x → w.cell? ⟨blk, off + j, none⟩ = some (.int .i64 x))

theorem crash_good (h : Good w pb bv bt N B c ops lim dk V T) (v : Value) (picks : List Int) (hp : Picks w bv v picks) :
    Calls Tryz.prog 13 #[.pointer (some ⟨pb, 0, none⟩), v] w fun e w' => e = .returned (.int .i64 0) ∧ CrashGood w pb bv N B c ops V T picks w' := by
  obtain ⟨nv, nt, hd, ha, hb⟩ := h.disk
  have hn0 := h.n0
  have hsm := h.small
  have hvlt := hd.sec.lt
  have fin : ∀ w', CrashPost w pb N bv ops (nv + c) c V T picks w' → CrashGood w pb bv N B c ops V T picks w' := by
    rintro w' ⟨bt', V', L, hR, hL, h3, hlt, h4, h5, h6, h7, h8⟩
    exact ⟨bt', V', L, ⟨⟨_, _, ⟨h3, h4, h7, by omega⟩, by omega, by omega⟩, hn0, h.n1, hsm, fun s _ => by omega, fun _ _ _ => rfl, h.ops0, h.ops1, by omega, by omega⟩, hR, hL, h5, h6, hlt, h8⟩
  obtain ⟨p, cap, rfl, hpl, hpc⟩ := hp
  rcases Nat.eq_zero_or_pos c with hc | hc
  · subst hc
    refine (crash_zero w hd (by omega) picks p picks.length cap).mono ?_
    rintro e w' ⟨rfl, h9⟩
    exact ⟨rfl, fin w' h9⟩
  · by_cases hne : picks = []
    · subst hne
      refine (crash_none w hd (by omega) hc (by omega) (by omega) (fun s hs => by have := h.turns s hs; omega) p cap).mono ?_
      rintro e w' ⟨rfl, h9⟩
      exact ⟨rfl, fin w' h9⟩
    · obtain ⟨blk, off, rfl, hb1, hb2, hcell⟩ := hpc hne
      refine (crash_some w hd (by omega) hc (by omega) (by omega) (fun s hs => by have := h.turns s hs; omega) picks blk off cap hpl (fun _ => ⟨hb1, hb2⟩) hcell).mono ?_
      rintro e w' ⟨rfl, h9⟩
      exact ⟨rfl, fin w' h9⟩

/-- Clone. -/
def CloneGood (w : World) (N B c : Nat) (ops lim : Int) (dk : Bool) (V : Int → Int → List UInt8) (T : Int → Int) (e : Ending) (w' : World) : Prop :=
  ∃ qb qv qt, e = .returned (.pointer (some ⟨qb, 0, none⟩)) ∧ Good w' qb qv qt N B c ops lim dk V T ∧ w.heap.size ≤ qb ∧ w.heap.size ≤ qv ∧ w.heap.size ≤ qt ∧ Fr (fun _ => False) w w'

theorem read_good (h : Good w pb bv bt N B c ops lim false V T) (at_ : Int) (h0 : 0 ≤ at_) (h1 : at_ < N) :
    Calls Tryz.prog 10 #[.pointer (some ⟨pb, 0, none⟩), .int .i64 at_] w fun e w' => NewBytes w (V at_ (T at_)) e w' := by
  obtain ⟨nv, nt, hd, ha, hb⟩ := h.disk
  have hn0 := h.n0
  have hn1 := h.n1
  exact read_ok w hd (by omega) at_ h0 h1 (by omega) (h.turnI (by constructor <;> omega))

theorem ops_good (h : Good w pb bv bt N B c ops lim dk V T) :
    Calls Tryz.prog 16 #[.pointer (some ⟨pb, 0, none⟩)] w fun e w' => e = .returned (.int .i64 ops) ∧ w = w' := by
  obtain ⟨nv, nt, hd, ha, hb⟩ := h.disk
  have hn0 := h.n0
  exact ops_any w hd.blk (by omega)

theorem sectors_good (h : Good w pb bv bt N B c ops lim dk V T) :
    Calls Tryz.prog 59 #[.pointer (some ⟨pb, 0, none⟩)] w fun e w' => e = .returned (.int .i64 N) ∧ w = w' := by
  obtain ⟨nv, nt, hd, ha, hb⟩ := h.disk
  have hn0 := h.n0
  exact sectors_any w hd.blk (by omega)

theorem image_good (h : Good w pb bv bt N B c ops lim dk V T) :
    Calls Tryz.prog 17 #[.pointer (some ⟨pb, 0, none⟩)] w fun e w' => NewReads w (gath (fun k => V k (T k)) N) e w' := by
  obtain ⟨nv, nt, hd, ha, hb⟩ := h.disk
  have hsm := h.small
  exact image_any w hd h.n0 h.n1 (fun s hs => by have := h.turns s hs; omega)

end

/-- A block of bytes reads as them. -/
theorem reads_of_block {w : World} {g : Nat} {t : TypeId} {l : List UInt8} (h : w.heap[g]? = some (.cells (secC l) t (0, 0))) : Reads w g 0 l := by
  intro j b hj
  rw [Nat.zero_add, cellAt h]
  unfold secC
  rw [List.getElem?_toArray, cellsOf_get, hj]
  rfl

end Go.Proofs.YtflapnbpaodhaaaGreatDoor
