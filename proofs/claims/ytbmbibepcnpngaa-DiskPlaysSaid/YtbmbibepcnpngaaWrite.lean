/-
  Write.
-/
import Derived.Test.YtbmbibepcnpngaaLook
import Derived.Test.YtbmbibepcnpngaaVal
import Derived.Deep.RegionHeld3
namespace Go.Proofs.Ytbmbibepcnpngaa
open Go.RowKit Go.Maps

/-- A write that is refused: no such sector, or not a sector's bytes. -/
theorem write_arg (w : World) {pb : Nat} {N : Int} {bv bt : Nat} {ops lim : Int} {dk : Bool} (hb : Blk w pb N bv bt ops lim dk) (hN : 0 < N) (at_ : Int) (p : Option Addr) (len cap : Nat) (h : at_ < 0 ∨ N ≤ at_ ∨ len ≠ 256) :
    Calls Try.prog 16 #[.pointer (some ⟨pb, 0, none⟩), .int .i64 at_, .slice p len cap] w fun e w' => e = .returned (.int .i64 2) ∧ w = w' := by
  have c0 := hb.c0
  have HM := Lib.hid (made_yes pb N w c0 hN)
  have HH := Lib.hid (has_any pb N at_ w c0)
  by_cases h1 : 0 ≤ at_ ∧ at_ < N
  · have hh : (decide (0 ≤ at_) && decide (at_ < N)) = true := by simp [h1]
    rw [hh] at HH
    have hl : ((len : Int) != 256) = true := by rw [bne_iff_ne]; omega
    clear hb hh h1 h
    go_enter Try.func16, Try.ntmps16
    go_wp2_with (first
      | (go_at_call 41; refine (HM.out).mono ?_; rintro e w' ⟨rfl, rfl⟩)
      | (go_at_call 42; refine (HH.out).mono ?_; rintro e w' ⟨rfl, rfl⟩))
    go_ret
    exact ⟨rfl, rfl⟩
  · have hh : (decide (0 ≤ at_) && decide (at_ < N)) = false := by simp; omega
    rw [hh] at HH
    clear hb hh h1 h
    go_enter Try.func16, Try.ntmps16
    go_wp2_with (first
      | (go_at_call 41; refine (HM.out).mono ?_; rintro e w' ⟨rfl, rfl⟩)
      | (go_at_call 42; refine (HH.out).mono ?_; rintro e w' ⟨rfl, rfl⟩))
    go_ret
    exact ⟨rfl, rfl⟩

/-- A write when the power is gone, or goes. -/
theorem write_power (w : World) {pb : Nat} {N : Int} {bv bt : Nat} {ops lim : Int} {dk : Bool} (hb : Blk w pb N bv bt ops lim dk) (hN : 0 < N) (at_ : Int) (p : Option Addr) (cap : Nat) (h0 : 0 ≤ at_) (h1 : at_ < N) (h : lim = 0 ∨ dk = true) :
    Calls Try.prog 16 #[.pointer (some ⟨pb, 0, none⟩), .int .i64 at_, .slice p 256 cap] w fun e w' => e = .returned (.int .i64 10) ∧ Blk w' pb N bv bt ops lim true ∧ Fr (· = pb) w w' ∧ w'.heap.size = w.heap.size := by
  have c0 := hb.c0
  have HM := Lib.hid (made_yes pb N w c0 hN)
  have HH := Lib.hid (has_any pb N at_ w c0)
  have hh : (decide (0 ≤ at_) && decide (at_ < N)) = true := by simp [h0, h1]
  rw [hh] at HH
  have HT := Lib.hid (take_no w hb h)
  clear hb hh h
  go_enter Try.func16, Try.ntmps16
  go_wp2_with (first
    | (go_at_call 41; refine (HM.out).mono ?_; rintro e w' ⟨rfl, rfl⟩)
    | (go_at_call 42; refine (HH.out).mono ?_; rintro e w' ⟨rfl, rfl⟩)
    | (go_at_call 43; refine (HT.out).mono ?_; rintro e w2 ⟨rfl, hb2, hF2, hs2⟩; have HB2 := Lib.hid hb2; have HF2 := Lib.hid hF2; have HS2 := Lib.hid hs2; clear hb2 hF2 hs2))
  go_ret
  exact ⟨rfl, HB2.out, HF2.out, HS2.out⟩


theorem upd_same (T : Int → Int) (s x : Int) : updT T s x s = x := if_pos rfl

set_option maxRecDepth 100000 in
set_option maxHeartbeats 1000000 in
theorem write_ok (w : World) {pb : Nat} {N : Int} {bv bt nv nt c : Nat} {ops lim : Int} {V : Int → Int → List UInt8} {T : Int → Int} (hb : Blk w pb N bv bt ops lim false) (hv : SecMap w bv nv V) (ht : TurnMap w bt nt T c) (hN : 0 < N) (hne : bv ≠ bt)
    (at_ : Int) (h0 : 0 ≤ at_) (h1 : at_ < N) (hNi : N ≤ 9223372036854775807) (hlim : lim ≠ 0) (hlo : -1 ≤ lim) (hhi : lim ≤ 9223372036854775807) (hop0 : 0 ≤ ops) (hop : ops ≤ 1000000000000) (hnv : nv < 1000000000000) (hnt : nt < 1000000000000) (hT0 : 0 ≤ T at_) (hT1 : T at_ ≤ 1000000000000)
    (blk off cap : Nat) (l : List UInt8) (hl : l.length = 256) (hblk : blk < w.heap.size) (hsrc : ∀ j b, l[j]? = some b → w.cell? ⟨blk, off + j, none⟩ = some (.int .u8 (b.toNat : Int))) (hbp : blk ≠ pb) (hbv : blk ≠ bv) (hbt : blk ≠ bt) :
    Calls Try.prog 16 #[.pointer (some ⟨pb, 0, none⟩), .int .i64 at_, .slice (some ⟨blk, off, none⟩) 256 cap] w fun e w' => e = .returned (.int .i64 0) ∧ Blk w' pb N bv bt (ops + 1) (lessOne lim) false ∧
      SecMap w' bv (nv + 1) (upd V at_ (T at_ + 1) l) ∧ TurnMap w' bt (nt + 1) (updT T at_ (T at_ + 1)) (cntUp (T at_) c) ∧ Fr (fun i => i = pb ∨ i = bv ∨ i = bt) w w' := by
  have c0 := hb.c0
  have HM := Lib.hid (made_yes pb N w c0 hN)
  have HH := Lib.hid (has_any pb N at_ w c0)
  have hh : (decide (0 ≤ at_) && decide (at_ < N)) = true := by simp [h0, h1]
  rw [hh] at HH
  have HT := Lib.hid (take_yes w hb hlim hlo hhi hop0 hop)
  have hs : I64 at_ := by constructor <;> omega
  have hx : I64 (T at_ + 1) := by constructor <;> omega
  have np := ht.ne_blk hb
  have nv' := hv.ne_blk hb
  have HV := Lib.hid hv
  have HTT := Lib.hid ht
  have HNE := Lib.hid (show pb ≠ bt ∧ pb ≠ bv ∧ bv ≠ bt ∧ bt ≠ pb ∧ bv ≠ pb from ⟨Ne.symm np, Ne.symm nv', hne, np, nv'⟩)
  have HSRC := Lib.hid hsrc
  have HBB := Lib.hid (show blk < w.heap.size ∧ blk ≠ pb ∧ blk ≠ bv ∧ blk ≠ bt from ⟨hblk, hbp, hbv, hbt⟩)
  have HL := Lib.hid hl
  have hp0 : 0 < T at_ + 1 := by omega
  clear hh hb hop0 hop hlim hlo hhi np nv' hne hv ht hsrc hblk hbp hbv hbt hl
  have hnt' : nt < maxLen := by unfold maxLen; omega
  have hnv' : nv < maxLen := by unfold maxLen; omega
  have HNV := Lib.hid hnv'
  have HNT := Lib.hid hnt'
  clear hnt' hnv'
  go_enter Try.func16, Try.ntmps16
  go_wp2_with (first
    | (go_at_call 41; refine (HM.out).mono ?_; rintro e w' ⟨rfl, rfl⟩)
    | (go_at_call 42; refine (HH.out).mono ?_; rintro e w' ⟨rfl, rfl⟩)
    | (go_at_call 43; refine (HT.out).mono ?_; rintro e w2 ⟨rfl, hb2, hF2, hs2⟩; have HB2 := Lib.hid hb2; have HF2 := Lib.hid hF2; have HT2 := Lib.hid (HTT.out.kept hF2 HNE.out.2.2.2.1); have HV2 := Lib.hid (HV.out.kept hF2 HNE.out.2.2.2.2); have c2 := hb2.c2; clear hb2 hF2 hs2)
    | ((with_reducible refine wpList_lookTurn ?_ (.tmp 28) (.tmp 29) ?_ bt nt T c at_ HT2.out hs ?_ ?_ ?_); (exact rfl); (exact rfl); (exact rfl); (exact rfl))
    | ((with_reducible refine wpList_storeTurn ?_ (.tmp 28) (.tmp 29) (.tmp 31) ?_ bt nt T c at_ (T at_ + 1) HT2.out hs hx hp0 HNT.out ?_ ?_ ?_ ?_); (exact rfl); (exact rfl); (exact rfl); (exact rfl); (exact rfl); intro w3 ht3 hm3;
        have hF3 := mapTurned_fr hm3; have HT3 := Lib.hid ht3; have HB3 := Lib.hid (HB2.out.kept hF3 HNE.out.1); have HV3 := Lib.hid (HV2.out.kept hF3 HNE.out.2.2.1); have HF3 := Lib.hid hF3; clear c2 hm3 hF3 ht3))
  go_frame
  have hk : ∀ w', Fr (· = bv) w3 w' → w'.cell? ⟨pb, 1, none⟩ = some (.map (some bv)) ∧ w'.cell? ⟨pb, 2, none⟩ = some (.map (some bt)) ∧ (Instr.lookup 63 (.map (some bt)) (.int .i64 at_) false).run Try.prog w' = .ok (.int .i64 (T at_ + 1)) w' := fun w' hF =>
    ⟨(HB3.out.kept hF HNE.out.2.1).c1, (HB3.out.kept hF HNE.out.2.1).c2, by have := ((HT3.out.kept hF (Ne.symm HNE.out.2.2.1)).look hs).1; rw [upd_same] at this; exact this⟩
  have HK := Lib.hid hk
  have HVO : Hid (Calls Try.prog 39 #[.slice (some ⟨blk, off, none⟩) 256 cap] w3.drew fun e w' => e = .returned (secV l) ∧ Below w3.drew.heap.size w3.drew w') := by
    have hF : Fr (fun i => i = pb ∨ i = bt) w w3 := (HF2.out.mono (S := fun i => i = pb ∨ i = bt) (fun i _ e => Or.inl e)).trans HF3.out (fun i _ e => Or.inr e)
    have hbk := hF.block blk HBB.out.1 (fun e => e.elim HBB.out.2.1 HBB.out.2.2.2)
    exact valueOf_any w3.drew blk off 256 cap l HL.out (Nat.le_refl _) (Nat.lt_of_lt_of_le HBB.out.1 hF.size) (fun j b hj => (World.cell?_of_block (w := w) (w' := w3.drew) hbk).trans (HSRC.out j b hj))
  have HF5 : Hid (∀ w5, Below w3.drew.heap.size w3.drew w5 → Fr (fun _ => False) w3 w5) := fun w5 hB =>
    ⟨hB.os, hB.tape, hB.output, hB.size, fun i hi _ => hB.block i hi⟩
  clear hk
  go_region_held3 (fun w' => w'.cell? ⟨pb, 1, none⟩ = some (.map (some bv)) ∧ w'.cell? ⟨pb, 2, none⟩ = some (.map (some bt)) ∧ (Instr.lookup 63 (.map (some bt)) (.int .i64 at_) false).run Try.prog w' = .ok (.int .i64 (T at_ + 1)) w')
    (first
      | exact HK.out _ (Fr.refl _ _).drew
      | exact HK.out _ HG5.out
      | exact HK.out _ HG6.out)
    (first
      | (go_at_call 39; refine (HVO.out).mono ?_; rintro e w5 ⟨rfl, hb5⟩; have HG5 : Hid (Fr (· = bv) w3 w5) := (HF5.out w5 hb5).mono (fun _ _ e => e.elim); have HV5 := Lib.hid (HV3.out.kept (HF5.out w5 hb5) id); clear hb5
         obtain ⟨w6, hrun6, hv6, hm6⟩ := HV5.out.store hs hx HL.out HNV.out
         unfold keyV at hrun6
         have HV6 := Lib.hid hv6
         have HG6 := Lib.hid (HG5.out.ofTurned hm6 (Or.inl rfl))
         clear hv6 hm6))
  all_goals
    have hfr : Fr (fun i => i = pb ∨ i = bv ∨ i = bt) w w6 := ((HF2.out.mono (S := fun i => i = pb ∨ i = bv ∨ i = bt) (fun i _ e => Or.inl e)).trans HF3.out (fun i _ e => Or.inr (Or.inr e))).trans HG6.out (fun i _ e => Or.inr (Or.inl e))
    have HFR := Lib.hid hfr
    clear hfr hrun6
    go_wp2
    go_ret
    exact ⟨rfl, HB3.out.kept HG6.out HNE.out.2.1, HV6.out, HT3.out.kept HG6.out (Ne.symm HNE.out.2.2.1), HFR.out⟩

end Go.Proofs.Ytbmbibepcnpngaa
