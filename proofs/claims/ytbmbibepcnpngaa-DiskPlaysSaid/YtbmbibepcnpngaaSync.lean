/-
  Sync.
-/
import Derived.Test.YtbmbibepcnpngaaSettle
import Derived.Outline
namespace Go.Proofs.Ytbmbibepcnpngaa
open Go.RowKit Go.Maps

theorem Fr.grownBy {w w' : World} {b : Nat} (h : Fr (· = b) w w') : w.grownBy w' (some b) :=
  ⟨h.os, h.tape, h.output, h.size, fun i hi hne => h.block i hi (fun e => hne (by rw [e]))⟩

theorem TurnD.zero {D : DU} {T : Int → Int} {c : Nat} (h : TurnD D T c) {s : Int} (hs : I64 s) (hn : Maps.has D (.int .i64 s) = false) : T s = 0 := by
  have h1 := h.at_ s hs
  rw [atKey_of_not_has hn] at h1
  simp only [DataW.lit.injEq, Lit.int.injEq, true_and] at h1
  exact h1.symm

/-- How a pass over the turns stands: 'left' tells which sectors are still to come. -/
structure PassAt (w : World) (bv nv c : Nat) (V : Int → Int → List UInt8) (T : Int → Int) (left : Lit → Bool) (cnt n : Nat) (V' : Int → Int → List UInt8) (wr : World) : Prop where
  fr : Fr (· = bv) w wr
  map : SecMap wr bv n V'
  le : n + cnt ≤ nv + c
  val : ∀ s, I64 s → (left (.int .i64 s) = true → ∀ t, V' s t = V s t) ∧ (left (.int .i64 s) = false → V' s 0 = V s (T s))

theorem settleV_other {V : Int → Int → List UInt8} {s turn k s' : Int} (h : s' ≠ s) (t' : Int) : settleV V s turn k s' t' = V s' t' := by
  unfold settleV upd dropV
  rw [if_neg (fun e => h e.1), if_neg (fun e => h e.1)]
theorem settleV_same {V : Int → Int → List UInt8} {s turn k : Int} : settleV V s turn k s 0 = V s turn := by
  unfold settleV upd
  rw [if_pos ⟨rfl, rfl⟩]

theorem sameKey_int {s x : Int} (h : s ≠ x) : (Lit.int .i64 s).sameKey (.int .i64 x) = false := sameKey_ne (by intro e; cases e; exact h rfl)
theorem sameKey_int_self (x : Int) (hx : I64 x) : (Lit.int .i64 x).sameKey (.int .i64 x) = true := WideAt.sameKey_self (keyedInt.key (keyOf_int_mk Try.underlying3 hx.wf))

theorem PassAt.start {w : World} {bv nv c : Nat} {V : Int → Int → List UInt8} {T : Int → Int} {D : DU} (hv : SecMap w bv nv V) (hD : TurnD D T c) {w' : World} (hF : Fr (fun _ => False) w w') : PassAt w bv nv c V T (Maps.has D) (Maps.size D) nv V w' :=
  ⟨hF.mono (fun _ _ e => e.elim), hv.kept hF id, by rw [hD.size]; exact Nat.le_refl _, fun s hs => ⟨fun _ _ => rfl, fun hn => by rw [hD.zero hs hn]⟩⟩

theorem PassAt.step {w : World} {bv nv c : Nat} {V V' : Int → Int → List UInt8} {T : Int → Int} {left : Lit → Bool} {cnt cnt1 n : Nat} {wr w1 : World} (h : PassAt w bv nv c V T left cnt n V' wr) {x : Int} (hl : left (.int .i64 x) = true) (hlt : cnt1 < cnt)
    (h1 : SecMap w1 bv (n + 1) (settleV V' x (T x) (T x))) (hF : Fr (· = bv) w w1) : PassAt w bv nv c V T (fun z => left z && !z.sameKey (.int .i64 x)) cnt1 (n + 1) (settleV V' x (T x) (T x)) w1 := by
  refine ⟨hF, h1, by have := h.le; omega, fun s hs => ?_⟩
  by_cases he : s = x
  · subst he
    refine ⟨fun e => ?_, fun _ => ?_⟩
    · rw [sameKey_int_self s hs] at e
      simp at e
    · rw [settleV_same]
      exact (h.val s hs).1 hl (T s)
  · rw [sameKey_int he]
    refine ⟨fun e t => ?_, fun e => ?_⟩
    · rw [settleV_other he]
      exact (h.val s hs).1 (by simpa using e) t
    · rw [settleV_other he]
      exact (h.val s hs).2 (by simpa using e)

/-- What Sync leaves. -/
def SyncPost (w : World) (pb : Nat) (N : Int) (bv : Nat) (ops lim : Int) (n : Nat) (V : Int → Int → List UInt8) (T : Int → Int) (w' : World) : Prop :=
  ∃ bt' V', Blk w' pb N bv bt' ops lim false ∧ w.heap.size ≤ bt' ∧ SecMap w' bv n V' ∧ (∀ s, I64 s → V' s 0 = V s (T s)) ∧ TurnMap w' bt' 0 (fun _ => 0) 0 ∧ Fr (fun i => i = pb ∨ i = bv) w w'

set_option maxHeartbeats 1000000 in
/-- Sync when the power is gone, or goes. -/
theorem sync_power (w : World) {pb : Nat} {N : Int} {bv bt : Nat} {ops lim : Int} {dk : Bool} (hb : Blk w pb N bv bt ops lim dk) (hN : 0 < N) (h : lim = 0 ∨ dk = true) :
    Calls Try.prog 18 #[.pointer (some ⟨pb, 0, none⟩)] w fun e w' => e = .returned (.int .i64 10) ∧ Blk w' pb N bv bt ops lim true ∧ Fr (· = pb) w w' ∧ w'.heap.size = w.heap.size := by
  have c0 := hb.c0
  have HM := Lib.hid (made_yes pb N w c0 hN)
  have HT := Lib.hid (take_no w hb h)
  clear hb h
  go_enter Try.func18, Try.ntmps18
  go_wp2_with (first
    | (go_at_call 41; refine (HM.out).mono ?_; rintro e w' ⟨rfl, rfl⟩)
    | (go_at_call 43; refine (HT.out).mono ?_; rintro e w2 ⟨rfl, hb2, hF2, hs2⟩; have HB2 := Lib.hid hb2; have HF2 := Lib.hid hF2; have HS2 := Lib.hid hs2; clear hb2 hF2 hs2))
  go_ret
  exact ⟨rfl, HB2.out, HF2.out, HS2.out⟩

theorem sync_end {w wr : World} {pb : Nat} {N : Int} {bv bt n m : Nat} {ops lim : Int} {V V' : Int → Int → List UInt8} {T : Int → Int} (hb : Blk wr pb N bv bt ops lim false) (hm : SecMap wr bv n V') (hn : n ≤ m) (hV : ∀ s, I64 s → V' s 0 = V s (T s)) (hF : Fr (fun i => i = pb ∨ i = bv) w wr) (hne : bv ≠ pb) :
    SyncPost w pb N bv ops lim m V T ((wr.alloc (.map #[] 0)).setCell ⟨pb, 2, none⟩ (.map (some wr.heap.size))) := by
  have hA : Fr (fun _ => False) wr (wr.alloc (.map #[] 0)) := (Fr.refl _ wr).alloc _
  have hb1 := hb.kept hA id
  have hS : Fr (· = pb) (wr.alloc (.map #[] 0)) ((wr.alloc (.map #[] 0)).setCell ⟨pb, 2, none⟩ (.map (some wr.heap.size))) := (Fr.refl (· = pb) _).setCell (p := ⟨pb, 2, none⟩) (Or.inl rfl) _
  refine ⟨wr.heap.size, V', hb1.set2 _, hF.size, ((hm.kept hA id).kept hS hne).mono hn, hV, (TurnMap.made wr).kept hS (fun e => ?_), ?_⟩
  · have := hb.lt
    omega
  · exact (hF.trans hA (fun _ _ e => e.elim)).trans hS (fun i _ e => Or.inl e)

set_option maxRecDepth 100000 in
set_option maxHeartbeats 1000000 in
theorem sync_ok (w : World) {pb : Nat} {N : Int} {bv bt nv nt c : Nat} {ops lim : Int} {V : Int → Int → List UInt8} {T : Int → Int} (hb : Blk w pb N bv bt ops lim false) (hv : SecMap w bv nv V) (ht : TurnMap w bt nt T c) (hN : 0 < N) (hne : bv ≠ bt)
    (hlim : lim ≠ 0) (hlo : -1 ≤ lim) (hhi : lim ≤ 9223372036854775807) (hop0 : 0 ≤ ops) (hop : ops ≤ 1000000000000) (hnv : nv + c < 1000000000000) (hT : ∀ s, I64 s → 0 ≤ T s ∧ T s ≤ 1000000000000) :
    Calls Try.prog 18 #[.pointer (some ⟨pb, 0, none⟩)] w fun e w' => e = .returned (.int .i64 0) ∧ SyncPost w pb N bv (ops + 1) (lessOne lim) (nv + c) V T w' := by
  have c0 := hb.c0
  have HM := Lib.hid (made_yes pb N w c0 hN)
  have HT := Lib.hid (take_yes w hb hlim hlo hhi hop0 hop)
  have np := ht.ne_blk hb
  have nv' := hv.ne_blk hb
  have HNE := Lib.hid (show pb ≠ bt ∧ pb ≠ bv ∧ bv ≠ bt ∧ bt ≠ pb ∧ bv ≠ pb from ⟨Ne.symm np, Ne.symm nv', hne, np, nv'⟩)
  have HV := Lib.hid hv
  have hvlt := hv.lt
  have htlt := ht.lt
  have hplt := hb.lt
  obtain ⟨D, hown, hD⟩ := ht
  have HD := Lib.hid hD
  have HO := Lib.hid hown
  have HTB := Lib.hid hT
  clear hb hop0 hop hlim hlo hhi np nv' hne hv hown hD hT
  go_enter Try.func18, Try.ntmps18
  go_wp2_with (first
    | (go_at_call 41; refine (HM.out).mono ?_; rintro e w' ⟨rfl, rfl⟩)
    | (go_at_call 43; refine (HT.out).mono ?_; rintro e w2 ⟨rfl, hb2, hF2, hs2⟩; have HB2 := Lib.hid hb2; have HF2 := Lib.hid hF2; have HO2 := Lib.hid (hF2.ownsMap HO.out HNE.out.2.2.2.1); have HV2 := Lib.hid (HV.out.kept hF2 HNE.out.2.2.2.2); have c2 := hb2.c2; clear hb2 hF2; have HS2 := Lib.hid hs2; clear hs2)
    | (at_range; refine wpList_range_own _ rfl _ 63 rfl 3 3 keyedInt Try.underlying63 _ bt nt D rfl HO2.out ?_; intro w3 hrg3 hg3 hs3))
  go_frame
  have hF23 : Fr (fun _ => False) w2 w3 := ⟨hg3.os, hg3.tape, hg3.output, hg3.size, fun i hi _ => hg3.block i hi (by simp)⟩
  have HP0 := Lib.hid (PassAt.start HV2.out HD.out hF23)
  have HRG3 := Lib.hid hrg3
  clear hg3 hs3 hF23 hrg3
  clear c2
  go_loopw [4] (fun _ wr => ∃ left cnt n V', Hid (wr.ranges Try.prog 3 (plainElem Try.prog 3) bt w2.heap.size nt D left cnt) ∧ Hid (PassAt w2 bv nv c V T left cnt n V' wr)) (fun _ wr => wr.rangeLeft bt w2.heap.size)
  case atStart => exact ⟨_, _, _, _, HRG3, HP0⟩
  case round =>
    obtain ⟨left, cnt, n, V', HR, HP⟩ := hrel
    go_wp2_with (first
      | (at_next; refine wpList_next_ranges_ii _ rfl _ rfl 3 3 .i64 .i64 keyedInt Try.underlying3 Try.underlying3 bt w2.heap.size nt D left cnt rfl HR.out ?_ ?_)
      | fail)
    · intro hc0 hl0
      have hb3 := HB2.out.kept HP.out.fr HNE.out.2.1
      have c2 := hb3.c2
      have hb4 := hb3.kept (((Fr.refl (fun _ => False) wr)).alloc (.map #[] 0)) id
      have c2' := hb4.c2
      have f2 := hb4.free 2
      have hfr : Fr (fun i => i = pb ∨ i = bv) w wr := (HF2.out.mono (S := fun i => i = pb ∨ i = bv) (fun _ _ e => Or.inl e)).trans HP.out.fr (fun _ _ e => Or.inr e)
      have HE := Lib.hid (sync_end hb3 HP.out.map (m := nv + c) (by have := HP.out.le; omega) (fun s hs => (HP.out.val s hs).2 (hl0 _)) hfr HNE.out.2.2.2.2)
      clear hb3 hb4 hfr hl0 hc0
      have hmm := @run_makeMap Try.prog
      go_wp2
      go_ret
      exact ⟨rfl, HE.out⟩
    · intro x c1 w4 cnt1 hwx hwc hlx hat hrg1 hlt hg1 hs1 hen
      have hx := I64.of_wf hwx
      have hc : c1 = T x := by
        have h1 := HD.out.at_ x hx
        rw [hat] at h1
        simpa using h1
      subst hc
      have hne2 : w2.heap.size ≠ bv := by have := HS2.out; omega
      have hF4 : Fr (· = bv) w2 w4 := HP.out.fr.grown hg1 (fun k e => by cases e; exact Or.inr (Nat.le_refl _))
      have hF4' : Fr (· = w2.heap.size) wr w4 := ⟨hg1.os, hg1.tape, hg1.output, hg1.size, fun i hi hn => hg1.block i hi (fun e => hn (by cases e; rfl))⟩
      have hm4 := HP.out.map.kept hF4' (Ne.symm hne2)
      have HST := Lib.hid (settle_any w4 (HB2.out.kept hF4 HNE.out.2.1) hm4 ⟨D, hrg1.owns, HD.out⟩ HNE.out.2.2.1 x (T x) hx (I64.of_wf hwc) (HTB.out x hx).1 (HTB.out x hx).2 (by have := HP.out.le; omega))
      have HK5 : Hid (∀ w5, SecMap w5 bv (n + 1) (settleV V' x (T x) (T x)) → Fr (· = bv) w4 w5 → w5.ranges Try.prog 3 (plainElem Try.prog 3) bt w2.heap.size nt D (fun z => left z && !z.sameKey (.int .i64 x)) cnt1 ∧ PassAt w2 bv nv c V T (fun z => left z && !z.sameKey (.int .i64 x)) cnt1 (n + 1) (settleV V' x (T x) (T x)) w5) := fun w5 h5 hF5 =>
        ⟨hrg1.kept hF5.grownBy (fun e => HNE.out.2.2.1 (by cases e; rfl)) (fun e => hne2 (by cases e; rfl)), HP.out.step hlx hlt h5 (hF4.trans hF5 (fun _ _ e => e))⟩
      have HLT := Lib.hid hlt
      clear hat hrg1 hlt hg1 hs1 hne2 hF4 hF4' hm4 hlx
      go_wp2_with (first
        | (go_at_call 45; refine (HST.out).mono ?_; rintro e w5 ⟨rfl, h5, hF5⟩; obtain ⟨hr5, hp5⟩ := HK5.out w5 h5 hF5; have HR5 := Lib.hid hr5; have HP5 := Lib.hid hp5; clear h5 hF5 hr5 hp5))
      go_roundw
      case rel => exact ⟨_, _, _, _, HR5, HP5⟩
      case measure => rw [HR5.out.left_eq, HR.out.left_eq]; exact HLT.out

end Go.Proofs.Ytbmbibepcnpngaa
