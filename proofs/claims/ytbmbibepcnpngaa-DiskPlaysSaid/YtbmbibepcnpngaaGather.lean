/-
  gather, Image, Sure.
-/
import Derived.Test.YtbmbibepcnpngaaSame
import Derived.Test.YtbmbibepcnpngaaLook
namespace Go.Proofs.Ytbmbibepcnpngaa
open Go.RowKit Go.Maps


/-- All sectors' bytes, one behind the other. -/
def gath (G : Nat → List UInt8) : Nat → List UInt8
  | 0 => []
  | k + 1 => gath G k ++ G k
theorem gath_length {G : Nat → List UInt8} {N : Nat} (hG : ∀ k, k < N → (G k).length = 256) : ∀ k, k ≤ N → (gath G k).length = k * 256
  | 0, _ => rfl
  | k + 1, h => by
    rw [gath, List.length_append, gath_length hG k (by omega), hG k (by omega), Nat.succ_mul]
theorem cellsOf_append (a b : List UInt8) : cellsOf (a ++ b) = cellsOf a ++ cellsOf b := by simp [cellsOf]
theorem secC_list (l : List UInt8) : (secC l).toList = cellsOf l := by simp [secC]

structure GatAt (w : World) (g N : Nat) (G : Nat → List UInt8) (k : Nat) (wr : World) : Prop where
  own : wr.ownsRow g 5 1 (.slice (some ⟨g, 0, none⟩) (k * 256) (N * 256)) (k * 256) (cellsOf (gath G k))
  fr : Fr (fun _ => False) w wr

/-- A new slice of bytes. -/
def NewReads (w : World) (l : List UInt8) (e : Ending) (w' : World) : Prop :=
  ∃ g cap, e = .returned (.slice (some ⟨g, 0, none⟩) l.length cap) ∧ w.heap.size ≤ g ∧ g < w'.heap.size ∧ Reads w' g 0 l ∧ Fr (fun _ => False) w w'

theorem reads_of_row {w : World} {g n : Nat} {t : TypeId} {l : List UInt8} {cur : Array Value} (hg : w.heap[g]? = some (.cells cur t (0, 0))) (h : cur.toList.take n = cellsOf l) : Reads w g 0 l := by
  intro j b hj
  rw [cellAt hg, Nat.zero_add, ← Array.getElem?_toList]
  have h1 : (cur.toList.take n)[j]? = some (.int .u8 (b.toNat : Int)) := by rw [h, cellsOf_get, hj]; rfl
  rw [List.getElem?_take] at h1
  split at h1
  · exact h1
  · cases h1

theorem row_kept {w w' : World} {base : Nat} {e : TypeId} {size : Nat} {v : Value} {n : Nat} {xs : List Value} (h : w.ownsRow base e size v n xs) (hF : Fr (fun _ => False) w w') : w'.ownsRow base e size v n xs := by
  obtain ⟨h1, h2⟩ := h
  refine ⟨h1, ?_⟩
  rcases h2 with h2 | ⟨g, cap, cur, hv, hg, hh, r⟩
  · exact Or.inl h2
  · exact Or.inr ⟨g, cap, cur, hv, hg, (hF.block g (Array.getElem?_eq_some_iff.1 hh).1 id).trans hh, r⟩

theorem Fr.mid {wr w2 w3 : World} {o : Obj} (hB : Below wr.heap.size wr w2) (hF : Fr (· = w2.heap.size) (w2.alloc o) w3) : Fr (fun _ => False) wr w3 := by
  have h2 : Fr (fun _ => False) wr w2 := ⟨hB.os, hB.tape, hB.output, hB.size, fun i hi _ => hB.block i hi⟩
  exact (((h2.alloc o).mono (S := fun i => i = w2.heap.size) (fun _ _ e => e.elim)).trans hF (fun _ _ e => e)).mono (fun i hi e => by have := hB.size; omega)

theorem src_of_block {w : World} {g : Nat} {t : TypeId} {l : List UInt8} (h : w.heap[g]? = some (.cells (secC l) t (0, 0))) : ∀ j u, (cellsOf l)[j]? = some u → w.cell? ((⟨g, 0, none⟩ : Addr).add j) = some u := by
  intro j u hj
  have hadd : (⟨g, 0, none⟩ : Addr).add j = ⟨g, 0 + j, none⟩ := by unfold Addr.add; split <;> simp_all
  rw [hadd, Nat.zero_add, cellAt h]
  unfold secC
  simpa using hj

theorem GatAt.kept {w : World} {g N : Nat} {G : Nat → List UInt8} {k : Nat} {wr w3 : World} (h : GatAt w g N G k wr) (hF : Fr (fun _ => False) wr w3) : GatAt w g N G k w3 :=
  ⟨row_kept h.own hF, h.fr.trans hF (fun _ _ e => e)⟩

theorem GatAt.ends {w : World} {N : Nat} {G : Nat → List UInt8} {wr : World} (h : GatAt w w.heap.size N G N wr) (hG : ∀ k, k < N → (G k).length = 256) :
    NewReads w (gath G N) (.returned (.slice (some ⟨w.heap.size, 0, none⟩) (N * 256) (N * 256))) wr := by
  refine ⟨w.heap.size, N * 256, by rw [gath_length hG N (Nat.le_refl _)], Nat.le_refl _, ?_⟩
  rcases h.own.2 with ⟨e, _⟩ | ⟨g, cap, cur, hv, _, hg, _, _, _, hx⟩
  · cases e
  · cases hv
    rw [Nat.mul_one] at hx
    exact ⟨(Array.getElem?_eq_some_iff.1 hg).1, reads_of_row hg hx, h.fr⟩

theorem Reads.kept {w w' : World} {g off : Nat} {l : List UInt8} (h : Reads w g off l) {S : Nat → Prop} (hF : Fr S w w') (hlt : g < w.heap.size) (hn : ¬ S g) : Reads w' g off l := fun j b hj =>
  (World.cell?_of_block (w := w) (w' := w') (hF.block g hlt hn)).trans (h j b hj)

/-- What the loop of gather asks of the function that it calls. -/
def CallL (w : World) (pb N : Nat) (G : Nat → List UInt8) : Prop :=
  ∀ (wr : World) (k : Nat), k < N → Fr (fun _ => False) w wr → Calls Try.prog 46 #[.pointer (some ⟨pb, 0, none⟩), .int .i64 (k : Int)] wr fun e w' => e = .returned (secV (G k)) ∧ (G k).length = 256 ∧ Below wr.heap.size wr w'

set_option maxRecDepth 100000 in
set_option maxHeartbeats 1000000 in
theorem gatherL (w : World) {pb N : Nat} {bv bt : Nat} {ops lim : Int} {dk : Bool} (hb : Blk w pb N bv bt ops lim dk) (hN0 : 1 ≤ N) (hN : N ≤ 4096) (G : Nat → List UInt8) (hG : ∀ k, k < N → (G k).length = 256) (hcall : CallL w pb N G) :
    Calls Try.prog 51 #[.pointer (some ⟨pb, 0, none⟩), .func (.func 46) #[.pointer (some ⟨pb, 0, none⟩)] #[]] w fun e w' => NewReads w (gath G N) e w' := by
  obtain ⟨i0, hi, hz0, hz1, hz2⟩ := info_parts infoB
  have HB := Lib.hid hb
  have c0 := hb.c0
  have HC := Lib.hid hcall
  have HG := Lib.hid hG
  have hmul : ((N : Int) * 256) = ((N * 256 : Nat) : Int) := by omega
  have HI := Lib.hid (show Try.prog.info? 5 = some i0 ∧ i0.zero = some (.int .u8 0) ∧ i0.size = 1 ∧ i0.bytes * (N * 256) ≤ 281474976710656 ∧ N * 256 ≤ maxLen from ⟨hi, hz0, hz1, by rw [hz2]; omega, by unfold maxLen; omega⟩)
  have HMUL := Lib.hid hmul
  clear hi hz0 hz1 hz2 hmul hb hcall hG
  go_enter Try.func51, Try.ntmps51
  go_wp2_with (first
    | ((with_reducible refine wpList_make_own _ ?_ (.const (.int .i64 0)) (.tmp 12) 22 ?_ w.heap.size 5 i0 (.int .u8 0) 1 Try.underlying22 HI.out.1 HI.out.2.1 HI.out.2.2.1 .i64 .i64 _ (N * 256) ?_ ?_ HMUL.out HI.out.2.2.2.1 HI.out.2.2.2.2 (Nat.le_refl _) ?_); (exact rfl); (exact rfl); (exact rfl); (exact rfl); intro w1 hown1 hg1; have HO1 := Lib.hid hown1; have HF1 := Lib.hid ((Fr.refl (fun _ => False) w).grown hg1 (fun k e => by cases e)); have c0 := (HB.out.kept HF1.out id).c0; clear hown1 hg1))
  go_loopw [5, 18] (fun v i wr => ∃ k : Nat, k ≤ N ∧ i = .int .i64 k ∧ v = .slice (some ⟨w.heap.size, 0, none⟩) (k * 256) (N * 256) ∧ Hid (GatAt w w.heap.size N G k wr)) (fun _ i _ => N - (intOf i).toNat)
  case atStart => exact ⟨0, Nat.zero_le _, rfl, by rw [Nat.zero_mul], (show GatAt _ _ _ _ _ _ from ⟨by rw [Nat.zero_mul]; exact HO1.out, HF1.out⟩)⟩
  case round =>
    obtain ⟨k, hk, rfl, rfl, HA⟩ := hrel
    by_cases hlt : k < N
    · have HCK := Lib.hid (HC.out wr k hlt HA.out.fr)
      have HLEN := Lib.hid (HG.out k hlt)
      have HFIT : Hid (k * 256 + 256 ≤ N * 256 ∧ (cellsOf (G k)).length = 256 * 1) := ⟨by omega, by rw [cellsOf_length, HLEN.out]⟩
      go_wp2_with (first
        | (go_at_call 46; refine (HCK.out).mono ?_; rintro e w2 ⟨rfl, _, hB2⟩; have HAL := Lib.hid (heap_alloc_new w2 (.cells (secC noughts) 68)); have HB2 := Lib.hid hB2; clear hB2)
        | ((with_reducible refine wpList_allocArr ?_ ?_ ?_); (exact rfl); (exact rfl))
        | ((with_reducible refine wpList_storeArr ?_ (.tmp 7) (.tmp 23) ?_ w2.heap.size (G k) noughts HLEN.out noughts_length ?_ ?_ HAL.out ?_); (exact rfl); (exact rfl); (exact rfl); (exact rfl); intro w3 h3 hF3 hs3; have H3 := Lib.hid h3; have HF3 := Lib.hid hF3; clear h3 hF3 hs3
           have HO3 := Lib.hid (HA.out.kept (Fr.mid HB2.out HF3.out))
           have HSRC := Lib.hid (src_of_block H3.out))
        | ((with_reducible refine wpList_sliceArr ?_ (.tmp 7) ?_ w2.heap.size ?_ ?_); (exact rfl); (exact rfl); (exact rfl))
        | ((with_reducible refine wpList_append_fits _ ?_ (.tmp 24) (.tmp 25) 22 ?_ w.heap.size 5 i0 1 Try.underlying22 HI.out.1 HI.out.2.2.1 w.heap.size (k * 256) (N * 256) (cellsOf (gath G k)) ?_ HO3.out.own ⟨w2.heap.size, 0, none⟩ 256 256 (cellsOf (G k)) ?_ HFIT.out.2 HSRC.out (cellsOf_one _) HFIT.out.1 ?_); (exact rfl); (exact rfl); (exact rfl); (exact rfl); intro w4 hown4 hg4; have HO4 := Lib.hid hown4; have HG4 := Lib.hid hg4; clear hown4 hg4))
      go_roundw
      case rel => exact ⟨k + 1, by omega, by go_num, by rw [Nat.succ_mul], (show GatAt _ _ _ _ _ _ from ⟨by rw [Nat.succ_mul, gath, cellsOf_append]; exact HO4.out, HO3.out.fr.grown HG4.out (fun j e => by cases e; exact Or.inr (Nat.le_refl _))⟩)⟩
      case measure => simp [intOf]; omega
    · have hkN : k = N := by omega
      subst hkN
      have HE := Lib.hid (HA.out.ends (HG.out))
      go_wp2
      go_ret
      exact HE.out

theorem allL (w : World) {pb N : Nat} {bv bt : Nat} {ops lim : Int} {dk : Bool} (hb : Blk w pb N bv bt ops lim dk) (hN0 : 1 ≤ N) (hN : N ≤ 4096) (G : Nat → List UInt8) (hG : ∀ k, k < N → (G k).length = 256) (hcall : CallL w pb N G) :
    Calls Try.prog 33 #[.pointer (some ⟨pb, 0, none⟩)] w fun e w' => NewReads w (gath G N) e w' := by
  have c0 := hb.c0
  have HM := Lib.hid (made_yes pb N w c0 (by omega))
  have HGA := Lib.hid (gatherL w hb hN0 hN G hG hcall)
  clear hb hG hcall
  go_enter Try.func33, Try.ntmps33
  go_wp2_with (first
    | (go_at_call 41; refine (HM.out).mono ?_; rintro e w' ⟨rfl, rfl⟩)
    | (go_at_call 51; refine (HGA.out).mono ?_; rintro e w2 ⟨g, cap, rfl, h1, h2, h3, h4⟩; have H := Lib.hid (show w.heap.size ≤ g ∧ g < w2.heap.size ∧ Reads w2 g 0 (gath G N) ∧ Fr (fun _ => False) w w2 from ⟨h1, h2, h3, h4⟩); clear h1 h2 h3 h4))
  go_ret
  exact ⟨g, cap, rfl, H.out.1, H.out.2.1, H.out.2.2.1, H.out.2.2.2⟩

/-- What the loop of gather asks of the function that it calls. -/
def CallS (w : World) (pb N : Nat) (G : Nat → List UInt8) : Prop :=
  ∀ (wr : World) (k : Nat), k < N → Fr (fun _ => False) w wr → Calls Try.prog 52 #[.pointer (some ⟨pb, 0, none⟩), .int .i64 (k : Int)] wr fun e w' => e = .returned (secV (G k)) ∧ (G k).length = 256 ∧ Below wr.heap.size wr w'

set_option maxRecDepth 100000 in
set_option maxHeartbeats 1000000 in
theorem gatherS (w : World) {pb N : Nat} {bv bt : Nat} {ops lim : Int} {dk : Bool} (hb : Blk w pb N bv bt ops lim dk) (hN0 : 1 ≤ N) (hN : N ≤ 4096) (G : Nat → List UInt8) (hG : ∀ k, k < N → (G k).length = 256) (hcall : CallS w pb N G) :
    Calls Try.prog 51 #[.pointer (some ⟨pb, 0, none⟩), .func (.func 52) #[.pointer (some ⟨pb, 0, none⟩)] #[]] w fun e w' => NewReads w (gath G N) e w' := by
  obtain ⟨i0, hi, hz0, hz1, hz2⟩ := info_parts infoB
  have HB := Lib.hid hb
  have c0 := hb.c0
  have HC := Lib.hid hcall
  have HG := Lib.hid hG
  have hmul : ((N : Int) * 256) = ((N * 256 : Nat) : Int) := by omega
  have HI := Lib.hid (show Try.prog.info? 5 = some i0 ∧ i0.zero = some (.int .u8 0) ∧ i0.size = 1 ∧ i0.bytes * (N * 256) ≤ 281474976710656 ∧ N * 256 ≤ maxLen from ⟨hi, hz0, hz1, by rw [hz2]; omega, by unfold maxLen; omega⟩)
  have HMUL := Lib.hid hmul
  clear hi hz0 hz1 hz2 hmul hb hcall hG
  go_enter Try.func51, Try.ntmps51
  go_wp2_with (first
    | ((with_reducible refine wpList_make_own _ ?_ (.const (.int .i64 0)) (.tmp 12) 22 ?_ w.heap.size 5 i0 (.int .u8 0) 1 Try.underlying22 HI.out.1 HI.out.2.1 HI.out.2.2.1 .i64 .i64 _ (N * 256) ?_ ?_ HMUL.out HI.out.2.2.2.1 HI.out.2.2.2.2 (Nat.le_refl _) ?_); (exact rfl); (exact rfl); (exact rfl); (exact rfl); intro w1 hown1 hg1; have HO1 := Lib.hid hown1; have HF1 := Lib.hid ((Fr.refl (fun _ => False) w).grown hg1 (fun k e => by cases e)); have c0 := (HB.out.kept HF1.out id).c0; clear hown1 hg1))
  go_loopw [5, 18] (fun v i wr => ∃ k : Nat, k ≤ N ∧ i = .int .i64 k ∧ v = .slice (some ⟨w.heap.size, 0, none⟩) (k * 256) (N * 256) ∧ Hid (GatAt w w.heap.size N G k wr)) (fun _ i _ => N - (intOf i).toNat)
  case atStart => exact ⟨0, Nat.zero_le _, rfl, by rw [Nat.zero_mul], (show GatAt _ _ _ _ _ _ from ⟨by rw [Nat.zero_mul]; exact HO1.out, HF1.out⟩)⟩
  case round =>
    obtain ⟨k, hk, rfl, rfl, HA⟩ := hrel
    by_cases hlt : k < N
    · have HCK := Lib.hid (HC.out wr k hlt HA.out.fr)
      have HLEN := Lib.hid (HG.out k hlt)
      have HFIT : Hid (k * 256 + 256 ≤ N * 256 ∧ (cellsOf (G k)).length = 256 * 1) := ⟨by omega, by rw [cellsOf_length, HLEN.out]⟩
      go_wp2_with (first
        | (go_at_call 52; refine (HCK.out).mono ?_; rintro e w2 ⟨rfl, _, hB2⟩; have HAL := Lib.hid (heap_alloc_new w2 (.cells (secC noughts) 68)); have HB2 := Lib.hid hB2; clear hB2)
        | ((with_reducible refine wpList_allocArr ?_ ?_ ?_); (exact rfl); (exact rfl))
        | ((with_reducible refine wpList_storeArr ?_ (.tmp 7) (.tmp 23) ?_ w2.heap.size (G k) noughts HLEN.out noughts_length ?_ ?_ HAL.out ?_); (exact rfl); (exact rfl); (exact rfl); (exact rfl); intro w3 h3 hF3 hs3; have H3 := Lib.hid h3; have HF3 := Lib.hid hF3; clear h3 hF3 hs3
           have HO3 := Lib.hid (HA.out.kept (Fr.mid HB2.out HF3.out))
           have HSRC := Lib.hid (src_of_block H3.out))
        | ((with_reducible refine wpList_sliceArr ?_ (.tmp 7) ?_ w2.heap.size ?_ ?_); (exact rfl); (exact rfl); (exact rfl))
        | ((with_reducible refine wpList_append_fits _ ?_ (.tmp 24) (.tmp 25) 22 ?_ w.heap.size 5 i0 1 Try.underlying22 HI.out.1 HI.out.2.2.1 w.heap.size (k * 256) (N * 256) (cellsOf (gath G k)) ?_ HO3.out.own ⟨w2.heap.size, 0, none⟩ 256 256 (cellsOf (G k)) ?_ HFIT.out.2 HSRC.out (cellsOf_one _) HFIT.out.1 ?_); (exact rfl); (exact rfl); (exact rfl); (exact rfl); intro w4 hown4 hg4; have HO4 := Lib.hid hown4; have HG4 := Lib.hid hg4; clear hown4 hg4))
      go_roundw
      case rel => exact ⟨k + 1, by omega, by go_num, by rw [Nat.succ_mul], (show GatAt _ _ _ _ _ _ from ⟨by rw [Nat.succ_mul, gath, cellsOf_append]; exact HO4.out, HO3.out.fr.grown HG4.out (fun j e => by cases e; exact Or.inr (Nat.le_refl _))⟩)⟩
      case measure => simp [intOf]; omega
    · have hkN : k = N := by omega
      subst hkN
      have HE := Lib.hid (HA.out.ends (HG.out))
      go_wp2
      go_ret
      exact HE.out

theorem allS (w : World) {pb N : Nat} {bv bt : Nat} {ops lim : Int} {dk : Bool} (hb : Blk w pb N bv bt ops lim dk) (hN0 : 1 ≤ N) (hN : N ≤ 4096) (G : Nat → List UInt8) (hG : ∀ k, k < N → (G k).length = 256) (hcall : CallS w pb N G) :
    Calls Try.prog 35 #[.pointer (some ⟨pb, 0, none⟩)] w fun e w' => NewReads w (gath G N) e w' := by
  have c0 := hb.c0
  have HM := Lib.hid (made_yes pb N w c0 (by omega))
  have HGA := Lib.hid (gatherS w hb hN0 hN G hG hcall)
  clear hb hG hcall
  go_enter Try.func35, Try.ntmps35
  go_wp2_with (first
    | (go_at_call 41; refine (HM.out).mono ?_; rintro e w' ⟨rfl, rfl⟩)
    | (go_at_call 51; refine (HGA.out).mono ?_; rintro e w2 ⟨g, cap, rfl, h1, h2, h3, h4⟩; have H := Lib.hid (show w.heap.size ≤ g ∧ g < w2.heap.size ∧ Reads w2 g 0 (gath G N) ∧ Fr (fun _ => False) w w2 from ⟨h1, h2, h3, h4⟩); clear h1 h2 h3 h4))
  go_ret
  exact ⟨g, cap, rfl, H.out.1, H.out.2.1, H.out.2.2.1, H.out.2.2.2⟩


/-- Image tells each sector's latest bytes. -/
theorem image_any (w : World) {pb bv bt nv nt c N : Nat} {ops lim : Int} {dk : Bool} {V : Int → Int → List UInt8} {T : Int → Int} (h : DiskAt w pb bv bt nv nt c N ops lim dk V T) (hN0 : 1 ≤ N) (hN : N ≤ 4096) (hT : ∀ s, I64 s → 0 ≤ T s ∧ T s ≤ 1000000000000) :
    Calls Try.prog 33 #[.pointer (some ⟨pb, 0, none⟩)] w fun e w' => NewReads w (gath (fun k => V k (T k)) N) e w' := by
  have hs : ∀ k : Nat, k < N → I64 (k : Int) := fun k hk => by constructor <;> omega
  have hTs : ∀ k : Nat, k < N → I64 (T k) := fun k hk => by have := hT k (hs k hk); constructor <;> omega
  exact allL w h.blk hN0 hN _ (fun k hk => (h.sec.look (hs k hk) (hTs k hk)).2) (fun wr k hk hF =>
    have h' := h.kept hF id id id
    latest_any wr h'.blk h'.sec h'.turn k (hs k hk) (hTs k hk))

/-- Sure tells each sector's sure bytes. -/
theorem sureAll_any (w : World) {pb bv bt nv nt c N : Nat} {ops lim : Int} {dk : Bool} {V : Int → Int → List UInt8} {T : Int → Int} (h : DiskAt w pb bv bt nv nt c N ops lim dk V T) (hN0 : 1 ≤ N) (hN : N ≤ 4096) :
    Calls Try.prog 35 #[.pointer (some ⟨pb, 0, none⟩)] w fun e w' => NewReads w (gath (fun k => V k 0) N) e w' := by
  have hs : ∀ k : Nat, k < N → I64 (k : Int) := fun k hk => by constructor <;> omega
  exact allS w h.blk hN0 hN _ (fun k hk => (h.sec.look (hs k hk) I64.zero).2) (fun wr k hk hF =>
    have h' := h.kept hF id id id
    sure_any wr h'.blk h'.sec k (hs k hk))

end Go.Proofs.Ytbmbibepcnpngaa
