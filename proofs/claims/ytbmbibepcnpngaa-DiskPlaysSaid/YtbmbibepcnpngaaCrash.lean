/-
  Crash.
-/
import Derived.Test.YtbmbibepcnpngaaSync
import Derived.Test.YtbmbibepcnpngaaKeys
import Derived.Test.YtbmbibepcnpngaaSame
import Derived.Deep.QuietTactic
import Derived.BigQuiet
namespace Go.Proofs.Ytbmbibepcnpngaa
open Go.RowKit Go.Maps

/-- Which of a sector's values a crash leaves: the j-th pick, modulo how many there are; without one: the first. -/
def pickOf (picks : List Int) (j : Nat) (m : Int) : Int :=
  match picks[j]? with
  | some p => amongZ p m
  | none => 0

theorem pickOf_in (picks : List Int) (j : Nat) {m : Int} (h1 : 1 ≤ m) (h2 : m ≤ 9223372036854775807) : 0 ≤ pickOf picks j m ∧ pickOf picks j m < m := by
  unfold pickOf
  split
  · exact amongZ_in h1 h2
  · omega

/-- What Crash leaves. -/
def CrashPost (w : World) (pb : Nat) (N : Int) (bv : Nat) (ops : Int) (n c : Nat) (V : Int → Int → List UInt8) (T : Int → Int) (picks : List Int) (w' : World) : Prop :=
  ∃ bt' V' L, Rising T L ∧ L.length = c ∧ Blk w' pb N bv bt' ops (-1) false ∧ w.heap.size ≤ bt' ∧ SecMap w' bv n V' ∧
    (∀ i s, L[i]? = some s → V' s 0 = V s (pickOf picks i (T s + 1))) ∧ (∀ s, s ∉ L → V' s 0 = V s 0) ∧ TurnMap w' bt' 0 (fun _ => 0) 0 ∧ Fr (fun i => i = pb ∨ i = bv) w w'

/-- How the crash stands when i of the sectors are settled. -/
structure CrAt (w : World) (bv nv c : Nat) (V : Int → Int → List UInt8) (T : Int → Int) (L picks : List Int) (i n : Nat) (V' : Int → Int → List UInt8) (wr : World) : Prop where
  fr : Fr (· = bv) w wr
  map : SecMap wr bv n V'
  le : n + (c - i) ≤ nv + c
  done : ∀ j s, j < i → L[j]? = some s → V' s 0 = V s (pickOf picks j (T s + 1))
  rest : ∀ s, (∀ j, j < i → L[j]? ≠ some s) → ∀ t, V' s t = V s t

theorem CrAt.start {w : World} {bv nv c : Nat} {V : Int → Int → List UInt8} {T : Int → Int} {L picks : List Int} (hv : SecMap w bv nv V) {w' : World} (hF : Fr (fun _ => False) w w') : CrAt w bv nv c V T L picks 0 nv V w' :=
  ⟨hF.mono (fun _ _ e => e.elim), hv.kept hF id, by omega, fun j s hj => by omega, fun _ _ _ => rfl⟩

theorem CrAt.step {w : World} {bv nv c : Nat} {V V' : Int → Int → List UInt8} {T : Int → Int} {L picks : List Int} {i n : Nat} {wr w1 : World} (h : CrAt w bv nv c V T L picks i n V' wr) (hL : L.Pairwise (· < ·)) (hi : i < c) {x : Int} (hx : L[i]? = some x)
    (h1 : SecMap w1 bv (n + 1) (settleV V' x (pickOf picks i (T x + 1)) (T x))) (hF : Fr (· = bv) w w1) : CrAt w bv nv c V T L picks (i + 1) (n + 1) (settleV V' x (pickOf picks i (T x + 1)) (T x)) w1 := by
  have hnd : ∀ j, L[j]? = some x → j = i := fun j hj => by
    obtain ⟨h3, h4⟩ := List.getElem?_eq_some_iff.1 hj
    obtain ⟨h5, h6⟩ := List.getElem?_eq_some_iff.1 hx
    rcases Nat.lt_trichotomy j i with hlt | he | hlt
    · have := List.pairwise_iff_getElem.1 hL j i h3 h5 hlt
      omega
    · exact he
    · have := List.pairwise_iff_getElem.1 hL i j h5 h3 hlt
      omega
  refine ⟨hF, h1, by have := h.le; omega, fun j s hj hs => ?_, fun s hs t => ?_⟩
  · by_cases hji : j = i
    · subst hji
      obtain rfl : x = s := by rw [hx] at hs; exact Option.some.inj hs
      rw [settleV_same]
      exact h.rest x (fun j' hj' e => by have := hnd j' e; omega) _
    · have hne : s ≠ x := fun e => hji (hnd j (e ▸ hs))
      rw [settleV_other hne]
      exact h.done j s (by omega) hs
  · have hne : s ≠ x := fun e => hs i (by omega) (e ▸ hx)
    rw [settleV_other hne]
    exact h.rest s (fun j hj => hs j (by omega)) t

theorem crash_end {w wr : World} {pb : Nat} {N : Int} {bv bt n m c : Nat} {ops lim : Int} {dk : Bool} {V V' : Int → Int → List UInt8} {T : Int → Int} {L picks : List Int} (hb : Blk wr pb N bv bt ops lim dk) (hm : SecMap wr bv n V') (hn : n ≤ m) (hR : Rising T L) (hL : L.length = c)
    (h1 : ∀ i s, L[i]? = some s → V' s 0 = V s (pickOf picks i (T s + 1))) (h2 : ∀ s, s ∉ L → V' s 0 = V s 0) (hF : Fr (fun i => i = pb ∨ i = bv) w wr) (hne : bv ≠ pb) :
    CrashPost w pb N bv ops m c V T picks ((((wr.alloc (.map #[] 0)).setCell ⟨pb, 2, none⟩ (.map (some wr.heap.size))).setCell ⟨pb, 4, none⟩ (.int .i64 (-1))).setCell ⟨pb, 5, none⟩ (.bool false)) := by
  have hA : Fr (fun _ => False) wr (wr.alloc (.map #[] 0)) := (Fr.refl _ wr).alloc _
  have hb1 := hb.kept hA id
  have hS : Fr (· = pb) (wr.alloc (.map #[] 0)) ((((wr.alloc (.map #[] 0)).setCell ⟨pb, 2, none⟩ (.map (some wr.heap.size))).setCell ⟨pb, 4, none⟩ (.int .i64 (-1))).setCell ⟨pb, 5, none⟩ (.bool false)) :=
    (((Fr.refl (· = pb) _).setCell (p := ⟨pb, 2, none⟩) (Or.inl rfl) _).setCell (p := ⟨pb, 4, none⟩) (Or.inl rfl) _).setCell (p := ⟨pb, 5, none⟩) (Or.inl rfl) _
  refine ⟨wr.heap.size, V', L, hR, hL, ((hb1.set2 _).set4 _).set5 _, hF.size, ((hm.kept hA id).kept hS hne).mono hn, h1, h2, (TurnMap.made wr).kept hS (fun e => ?_), ?_⟩
  · have := hb.lt
    omega
  · exact (hF.trans hA (fun _ _ e => e.elim)).trans hS (fun i _ e => Or.inl e)

/-- The block as the tail of Crash meets it. -/
theorem crash_tail_facts {wr : World} {pb : Nat} {N : Int} {bv bt : Nat} {ops lim : Int} {dk : Bool} (hb : Blk wr pb N bv bt ops lim dk) :
    ((wr.alloc (.map #[] 0)).cell? ⟨pb, 2, none⟩ = some (.map (some bt)) ∧ (wr.alloc (.map #[] 0)).frozen? ⟨pb, 2, none⟩ = false) ∧
    (((wr.alloc (.map #[] 0)).setCell ⟨pb, 2, none⟩ (.map (some wr.heap.size))).cell? ⟨pb, 4, none⟩ = some (.int .i64 lim) ∧ ((wr.alloc (.map #[] 0)).setCell ⟨pb, 2, none⟩ (.map (some wr.heap.size))).frozen? ⟨pb, 4, none⟩ = false) ∧
    ((((wr.alloc (.map #[] 0)).setCell ⟨pb, 2, none⟩ (.map (some wr.heap.size))).setCell ⟨pb, 4, none⟩ (.int .i64 (-1))).cell? ⟨pb, 5, none⟩ = some (.bool dk) ∧ (((wr.alloc (.map #[] 0)).setCell ⟨pb, 2, none⟩ (.map (some wr.heap.size))).setCell ⟨pb, 4, none⟩ (.int .i64 (-1))).frozen? ⟨pb, 5, none⟩ = false) := by
  have hA : Fr (fun _ => False) wr (wr.alloc (.map #[] 0)) := (Fr.refl _ wr).alloc _
  have hb1 := hb.kept hA id
  have hb2 := hb1.set2 wr.heap.size
  have hb3 := hb2.set4 (-1)
  exact ⟨⟨hb1.c2, hb1.free 2⟩, ⟨hb2.c4, hb2.free 4⟩, ⟨hb3.c5, hb3.free 5⟩⟩

set_option maxRecDepth 100000 in
set_option maxHeartbeats 1000000 in
theorem crash_zero (w : World) {pb bv bt nv nt : Nat} {N ops lim : Int} {dk : Bool} {V : Int → Int → List UInt8} {T : Int → Int} (h : DiskAt w pb bv bt nv nt 0 N ops lim dk V T) (hN : 0 < N) (picks : List Int) (p : Option Addr) (len cap : Nat) :
    Calls Try.prog 25 #[.pointer (some ⟨pb, 0, none⟩), .slice p len cap] w fun e w' => e = .returned (.int .i64 0) ∧ CrashPost w pb N bv ops nv 0 V T picks w' := by
  have c0 := h.blk.c0
  have c2 := h.blk.c2
  have HM := Lib.hid (made_yes pb N w c0 hN)
  have HK := Lib.hid (keys_call w bt)
  have HS := Lib.hid (sorted_none w h.turn)
  have HH := Lib.hid h
  have HE : Hid (∀ w2, Below (w.alloc (.cells #[.map (some bt)] 63)).heap.size (w.alloc (.cells #[.map (some bt)] 63)) w2 → Blk w2 pb N bv bt ops lim dk ∧ (Rising T [] → CrashPost w pb N bv ops nv 0 V T picks ((((w2.alloc (.map #[] 0)).setCell ⟨pb, 2, none⟩ (.map (some w2.heap.size))).setCell ⟨pb, 4, none⟩ (.int .i64 (-1))).setCell ⟨pb, 5, none⟩ (.bool false)))) := fun w2 hB => by
    have hF1 : Fr (fun _ => False) w (w.alloc (.cells #[.map (some bt)] 63)) := (Fr.refl _ w).alloc _
    have hF2 : Fr (fun _ => False) w w2 := hF1.trans (S' := fun _ => False) ⟨hB.os, hB.tape, hB.output, hB.size, fun i hi _ => hB.block i hi⟩ (fun _ _ e => e)
    have h2 := h.kept hF2 id id id
    exact ⟨h2.blk, fun hR => crash_end h2.blk h2.sec (Nat.le_refl _) hR rfl (fun i s hi => by simp at hi) (fun _ _ => rfl) (hF2.mono (fun _ _ e => e.elim)) (h.sec.ne_blk h.blk)⟩
  clear h
  have hmm := @run_makeMap Try.prog
  go_enter Try.func25, Try.ntmps25
  go_wp2_with (first
    | (go_at_call 41; refine (HM.out).mono ?_; rintro e w' ⟨rfl, rfl⟩)
    | (go_at_call 48; refine (HK.out).mono ?_; rintro e w' ⟨rfl, rfl⟩)
    | (go_at_call 47; refine (HS.out).mono ?_; rintro e w2 ⟨rfl, hR, hB⟩; have HE2 := Lib.hid ((HE.out w2 hB).2 hR); obtain ⟨⟨t1, t2⟩, ⟨t3, t4⟩, ⟨t5, t6⟩⟩ := crash_tail_facts (HE.out w2 hB).1; clear hR hB))
  refine wp_loop_rounds 1 ?_
  rw [rounds_succ]
  go_wp2
  go_ret
  exact ⟨rfl, HE2.out⟩

set_option maxRecDepth 100000 in
set_option maxHeartbeats 2000000 in
theorem crash_none (w : World) {pb bv bt nv nt c : Nat} {N ops lim : Int} {dk : Bool} {V : Int → Int → List UInt8} {T : Int → Int} (h : DiskAt w pb bv bt nv nt c N ops lim dk V T) (hN : 0 < N) (hc0 : 0 < c) (hc : c ≤ 1000000000) (hnv : nv + c < 1000000000000) (hT : ∀ s, I64 s → 0 ≤ T s ∧ T s ≤ 1000000000000)
    (p : Option Addr) (cap : Nat) :
    Calls Try.prog 25 #[.pointer (some ⟨pb, 0, none⟩), .slice p 0 cap] w fun e w' => e = .returned (.int .i64 0) ∧ CrashPost w pb N bv ops (nv + c) c V T [] w' := by
  have c0 := h.blk.c0
  have c2 := h.blk.c2
  have HM := Lib.hid (made_yes pb N w c0 hN)
  have HK := Lib.hid (keys_call w bt)
  have HS := Lib.hid (sorted_some w h.turn hc0 hc)
  have HTB := Lib.hid hT
  have HNE := Lib.hid (show bv ≠ bt ∧ bt ≠ pb ∧ bv ≠ pb ∧ pb ≠ bv from ⟨h.ne, h.turn.ne_blk h.blk, h.sec.ne_blk h.blk, Ne.symm (h.sec.ne_blk h.blk)⟩)
  have HVLT := Lib.hid h.sec.lt
  have HF : Hid (∀ w2, Below (w.alloc (.cells #[.map (some bt)] 63)).heap.size (w.alloc (.cells #[.map (some bt)] 63)) w2 → Fr (fun _ => False) w w2 ∧ DiskAt w2 pb bv bt nv nt c N ops lim dk V T) := fun w2 hB => by
    have hF1 : Fr (fun _ => False) w (w.alloc (.cells #[.map (some bt)] 63)) := (Fr.refl _ w).alloc _
    have hF2 : Fr (fun _ => False) w w2 := hF1.trans (S' := fun _ => False) ⟨hB.os, hB.tape, hB.output, hB.size, fun i hi _ => hB.block i hi⟩ (fun _ _ e => e)
    exact ⟨hF2, h.kept hF2 id id id⟩
  
  clear h hT
  have hmm := @run_makeMap Try.prog
  go_enter Try.func25, Try.ntmps25
  go_wp2_with (first
    | (go_at_call 41; refine (HM.out).mono ?_; rintro e w' ⟨rfl, rfl⟩)
    | (go_at_call 48; refine (HK.out).mono ?_; rintro e w' ⟨rfl, rfl⟩)
    | (go_at_call 47; refine (HS.out).mono ?_; rintro e w2 ⟨g, gcap, L, rfl, hR, hL, hg1, hg2, hcell, hB⟩; have HR := Lib.hid hR; have HL := Lib.hid hL; have HG := Lib.hid (show w.heap.size ≤ g ∧ g < w2.heap.size from ⟨by simp at hg1; omega, hg2⟩); have HCELL := Lib.hid hcell; have HD2 := Lib.hid (HF.out w2 hB); clear hR hL hg1 hg2 hcell hB))
  have HC0 : Hid (CrAt w2 bv nv c V T L [] 0 nv V w2) := CrAt.start HD2.out.2.sec (Fr.refl _ _)
  clear c2
  go_loopw [18] (fun i wr => ∃ (k n : Nat) (V' : Int → Int → List UInt8), k ≤ c ∧ i = .int .i64 k ∧ Hid (CrAt w2 bv nv c V T L [] k n V' wr)) (fun i _ => c - (intOf i).toNat)
  case atStart => exact ⟨0, nv, V, Nat.zero_le _, rfl, HC0⟩
  case round =>
    obtain ⟨k, n, V', hk, rfl, HA⟩ := hrel
    have HD := Lib.hid (show Blk wr pb N bv bt ops lim dk ∧ TurnMap wr bt nt T c from ⟨HD2.out.2.blk.kept HA.out.fr HNE.out.2.2.2, HD2.out.2.turn.kept HA.out.fr (Ne.symm HNE.out.1)⟩)
    by_cases hlt : k < c
    · obtain ⟨x, hx⟩ : ∃ x, L[k]? = some x := ⟨_, List.getElem?_eq_getElem (by rw [HL.out]; exact hlt)⟩
      have hxm := (HR.out.mem x).1 (List.mem_of_getElem? hx)
      have hxi := hxm.1
      have hT1 := (HTB.out x hxi).2
      have hT0 := hxm.2
      have hd : wr.cell? ⟨g, k, none⟩ = some (.int .i64 x) := (World.cell?_of_block (w := w2) (w' := wr) (HA.out.fr.block g HG.out.2 (fun e => by have := HG.out.1; have := HVLT.out; omega))).trans (HCELL.out k x hx)
      have HX := Lib.hid hx
      have h0 : (0 : Int) ≤ k := by omega
      have h1 : (k : Int) < c := by omega
      clear hx hxm
      have hturn : pickOf [] k (T x + 1) = 0 := rfl
      have HST := Lib.hid (settle_any wr HD.out.1 HA.out.map HD.out.2 HNE.out.1 x 0 hxi I64.zero (by omega) hT1 (by have := HA.out.le; omega))
      have HK5 : Hid (∀ w5, SecMap w5 bv (n + 1) (settleV V' x 0 (T x)) → Fr (· = bv) wr w5 → CrAt w2 bv nv c V T L [] (k + 1) (n + 1) (settleV V' x 0 (T x)) w5) := fun w5 h5 hF5 =>
        HA.out.step HR.out.sorted hlt HX.out h5 (HA.out.fr.trans hF5 (fun _ _ e => e))
      clear hturn
      go_wp2_with (first
        | (go_at_call 45; refine (HST.out).mono ?_; rintro e w5 ⟨rfl, h5, hF5⟩; have HA5 := Lib.hid (HK5.out w5 h5 hF5); clear h5 hF5))
      go_roundw
      case rel => exact ⟨k + 1, n + 1, _, by omega, by go_num, HA5⟩
      case measure => simp [intOf]; omega
    · have hkc : k = c := by omega
      subst hkc
      have HE2 := Lib.hid (crash_end (w := w) HD.out.1 HA.out.map (m := nv + k) (by have := HA.out.le; omega) HR.out HL.out (fun i s hi => HA.out.done i s (by rw [← HL.out]; exact (List.getElem?_eq_some_iff.1 hi).1) hi) (fun s hs => HA.out.rest s (fun j _ e => hs (List.mem_of_getElem? e)) 0)
        ((HD2.out.1.mono (S := fun i => i = pb ∨ i = bv) (fun _ _ e => e.elim)).trans HA.out.fr (fun _ _ e => Or.inr e)) HNE.out.2.2.1)
      obtain ⟨⟨t1, t2⟩, ⟨t3, t4⟩, ⟨t5, t6⟩⟩ := crash_tail_facts HD.out.1
      go_wp2
      go_ret
      exact ⟨rfl, HE2.out⟩

set_option maxRecDepth 100000 in
set_option maxHeartbeats 2000000 in
theorem crash_some (w : World) {pb bv bt nv nt c : Nat} {N ops lim : Int} {dk : Bool} {V : Int → Int → List UInt8} {T : Int → Int} (h : DiskAt w pb bv bt nv nt c N ops lim dk V T) (hN : 0 < N) (hc0 : 0 < c) (hc : c ≤ 1000000000) (hnv : nv + c < 1000000000000) (hT : ∀ s, I64 s → 0 ≤ T s ∧ T s ≤ 1000000000000)
    (picks : List Int) (blk off cap : Nat) (hpl : picks.length ≤ 9223372036854775807) (hblk : picks ≠ [] → blk < w.heap.size ∧ blk ≠ bv) (hpc : ∀ j x, picks[j]? = some x → w.cell? ⟨blk, off + j, none⟩ = some (.int .i64 x)) :
    Calls Try.prog 25 #[.pointer (some ⟨pb, 0, none⟩), .slice (some ⟨blk, off, none⟩) picks.length cap] w fun e w' => e = .returned (.int .i64 0) ∧ CrashPost w pb N bv ops (nv + c) c V T picks w' := by
  have c0 := h.blk.c0
  have c2 := h.blk.c2
  have HM := Lib.hid (made_yes pb N w c0 hN)
  have HK := Lib.hid (keys_call w bt)
  have HS := Lib.hid (sorted_some w h.turn hc0 hc)
  have HTB := Lib.hid hT
  have HNE := Lib.hid (show bv ≠ bt ∧ bt ≠ pb ∧ bv ≠ pb ∧ pb ≠ bv from ⟨h.ne, h.turn.ne_blk h.blk, h.sec.ne_blk h.blk, Ne.symm (h.sec.ne_blk h.blk)⟩)
  have HVLT := Lib.hid h.sec.lt
  have HF : Hid (∀ w2, Below (w.alloc (.cells #[.map (some bt)] 63)).heap.size (w.alloc (.cells #[.map (some bt)] 63)) w2 → Fr (fun _ => False) w w2 ∧ DiskAt w2 pb bv bt nv nt c N ops lim dk V T) := fun w2 hB => by
    have hF1 : Fr (fun _ => False) w (w.alloc (.cells #[.map (some bt)] 63)) := (Fr.refl _ w).alloc _
    have hF2 : Fr (fun _ => False) w w2 := hF1.trans (S' := fun _ => False) ⟨hB.os, hB.tape, hB.output, hB.size, fun i hi _ => hB.block i hi⟩ (fun _ _ e => e)
    exact ⟨hF2, h.kept hF2 id id id⟩
  have HPC := Lib.hid hpc
  have HBLK := Lib.hid hblk
  obtain ⟨m, hm⟩ : ∃ m, m = picks.length := ⟨_, rfl⟩
  have hm1 : m ≤ 9223372036854775807 := by omega
  rw [← hm]
  have HMM := Lib.hid hm
  clear hpc hblk hm hpl
  clear h hT
  have hmm := @run_makeMap Try.prog
  go_enter Try.func25, Try.ntmps25
  go_wp2_with (first
    | (go_at_call 41; refine (HM.out).mono ?_; rintro e w' ⟨rfl, rfl⟩)
    | (go_at_call 48; refine (HK.out).mono ?_; rintro e w' ⟨rfl, rfl⟩)
    | (go_at_call 47; refine (HS.out).mono ?_; rintro e w2 ⟨g, gcap, L, rfl, hR, hL, hg1, hg2, hcell, hB⟩; have HR := Lib.hid hR; have HL := Lib.hid hL; have HG := Lib.hid (show w.heap.size ≤ g ∧ g < w2.heap.size from ⟨by simp at hg1; omega, hg2⟩); have HCELL := Lib.hid hcell; have HD2 := Lib.hid (HF.out w2 hB); clear hR hL hg1 hg2 hcell hB))
  have HC0 : Hid (CrAt w2 bv nv c V T L picks 0 nv V w2) := CrAt.start HD2.out.2.sec (Fr.refl _ _)
  clear c2
  go_loopw [18] (fun i wr => ∃ (k n : Nat) (V' : Int → Int → List UInt8), k ≤ c ∧ i = .int .i64 k ∧ Hid (CrAt w2 bv nv c V T L picks k n V' wr)) (fun i _ => c - (intOf i).toNat)
  case atStart => exact ⟨0, nv, V, Nat.zero_le _, rfl, HC0⟩
  case round =>
    obtain ⟨k, n, V', hk, rfl, HA⟩ := hrel
    have HD := Lib.hid (show Blk wr pb N bv bt ops lim dk ∧ TurnMap wr bt nt T c from ⟨HD2.out.2.blk.kept HA.out.fr HNE.out.2.2.2, HD2.out.2.turn.kept HA.out.fr (Ne.symm HNE.out.1)⟩)
    by_cases hlt : k < c
    · obtain ⟨x, hx⟩ : ∃ x, L[k]? = some x := ⟨_, List.getElem?_eq_getElem (by rw [HL.out]; exact hlt)⟩
      have hxm := (HR.out.mem x).1 (List.mem_of_getElem? hx)
      have hxi := hxm.1
      have hT1 := (HTB.out x hxi).2
      have hT0 := hxm.2
      have hd : wr.cell? ⟨g, k, none⟩ = some (.int .i64 x) := (World.cell?_of_block (w := w2) (w' := wr) (HA.out.fr.block g HG.out.2 (fun e => by have := HG.out.1; have := HVLT.out; omega))).trans (HCELL.out k x hx)
      have HX := Lib.hid hx
      have h0 : (0 : Int) ≤ k := by omega
      have h1 : (k : Int) < c := by omega
      clear hx hxm
      by_cases hkm : k < m
      · obtain ⟨y, hy⟩ : ∃ y, picks[k]? = some y := ⟨_, List.getElem?_eq_getElem (by have := HMM.out; omega)⟩
        have hne : picks ≠ [] := fun e => by rw [e] at hy; simp at hy
        have hd2 : wr.cell? ⟨blk, off + k, none⟩ = some (.int .i64 y) :=
          ((World.cell?_of_block (w := w2) (w' := wr) (HA.out.fr.block blk (Nat.lt_of_lt_of_le (HBLK.out hne).1 HD2.out.1.size) (HBLK.out hne).2)).trans (World.cell?_of_block (w := w) (w' := w2) (HD2.out.1.block blk (HBLK.out hne).1 id))).trans (HPC.out k y hy)
        have hturn : pickOf picks k (T x + 1) = wrap64 ((IntKind.u64.wrap y).tmod (T x + 1)) := by unfold pickOf; rw [hy]; rfl
        have hti : I64 (wrap64 ((IntKind.u64.wrap y).tmod (T x + 1))) := by
          have := pickOf_in picks k (m := T x + 1) (by omega) (by omega)
          rw [hturn] at this
          constructor <;> omega
        have HST := Lib.hid (fun j => settle_any (wr.drewN j) (HD.out.1.kept ((Fr.refl (fun _ => False) wr).drewN j) id) (HA.out.map.kept ((Fr.refl (fun _ => False) wr).drewN j) id) (HD.out.2.kept ((Fr.refl (fun _ => False) wr).drewN j) id) HNE.out.1 x (wrap64 ((IntKind.u64.wrap y).tmod (T x + 1))) hxi hti (by omega) hT1 (by have := HA.out.le; omega))
        have HK5 : Hid (∀ j w5, SecMap w5 bv (n + 1) (settleV V' x (wrap64 ((IntKind.u64.wrap y).tmod (T x + 1))) (T x)) → Fr (· = bv) (wr.drewN j) w5 → CrAt w2 bv nv c V T L picks (k + 1) (n + 1) (settleV V' x (wrap64 ((IntKind.u64.wrap y).tmod (T x + 1))) (T x)) w5) := fun j w5 h5 hF5 => by
          have := HA.out.step HR.out.sorted hlt HX.out (w1 := w5) (picks := picks) (by rw [hturn]; exact h5) ((HA.out.fr.drewN j).trans hF5 (fun _ _ e => e))
          rw [hturn] at this
          exact this
        have c2 := HD.out.1.c2
        have hlook := fun j => ((HD.out.2.kept ((Fr.refl (fun _ => False) wr).drewN j) id).look hxi).1
        have h2 : (k : Int) < m := by omega
        clear hturn hti hy hne
        go_wp2_with fail
        go_quiet (fail)
        go_wp2_with (first
          | (go_at_call 45; refine (HST.out _).mono ?_; rintro e w5 ⟨rfl, h5, hF5⟩; have HA5 := Lib.hid (HK5.out _ w5 h5 hF5); clear h5 hF5))
        go_roundw
        case rel => exact ⟨k + 1, n + 1, _, by omega, by go_num, HA5⟩
        case measure => simp [intOf]; omega
      · have hnone : picks[k]? = none := List.getElem?_eq_none (by have := HMM.out; omega)
        have hturn : pickOf picks k (T x + 1) = 0 := by unfold pickOf; rw [hnone]
        have HST := Lib.hid (settle_any wr HD.out.1 HA.out.map HD.out.2 HNE.out.1 x 0 hxi I64.zero (by omega) hT1 (by have := HA.out.le; omega))
        have HK5 : Hid (∀ w5, SecMap w5 bv (n + 1) (settleV V' x 0 (T x)) → Fr (· = bv) wr w5 → CrAt w2 bv nv c V T L picks (k + 1) (n + 1) (settleV V' x 0 (T x)) w5) := fun w5 h5 hF5 => by
          have := HA.out.step HR.out.sorted hlt HX.out (w1 := w5) (picks := picks) (by rw [hturn]; exact h5) (HA.out.fr.trans hF5 (fun _ _ e => e))
          rw [hturn] at this
          exact this
        clear hturn hnone
        go_wp2_with (first
          | (go_at_call 45; refine (HST.out).mono ?_; rintro e w5 ⟨rfl, h5, hF5⟩; have HA5 := Lib.hid (HK5.out w5 h5 hF5); clear h5 hF5))
        go_roundw
        case rel => exact ⟨k + 1, n + 1, _, by omega, by go_num, HA5⟩
        case measure => simp [intOf]; omega
    · have hkc : k = c := by omega
      subst hkc
      have HE2 := Lib.hid (crash_end (w := w) HD.out.1 HA.out.map (m := nv + k) (by have := HA.out.le; omega) HR.out HL.out (fun i s hi => HA.out.done i s (by rw [← HL.out]; exact (List.getElem?_eq_some_iff.1 hi).1) hi) (fun s hs => HA.out.rest s (fun j _ e => hs (List.mem_of_getElem? e)) 0)
        ((HD2.out.1.mono (S := fun i => i = pb ∨ i = bv) (fun _ _ e => e.elim)).trans HA.out.fr (fun _ _ e => Or.inr e)) HNE.out.2.2.1)
      obtain ⟨⟨t1, t2⟩, ⟨t3, t4⟩, ⟨t5, t6⟩⟩ := crash_tail_facts HD.out.1
      go_wp2
      go_ret
      exact ⟨rfl, HE2.out⟩

end Go.Proofs.Ytbmbibepcnpngaa
