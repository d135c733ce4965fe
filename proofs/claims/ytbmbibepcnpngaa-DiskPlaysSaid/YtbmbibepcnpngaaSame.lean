/-
  The statements' helpers: Among, SameBytes, full.
-/
import Derived.Test.YtbmbibepcnpngaaNew
import Derived.Deep.LoopGhost
import Derived.Deep.QuietTactic
import Derived.BigQuiet
namespace Go.Proofs.Ytbmbibepcnpngaa
open Go.RowKit Go.Maps


/-- Cells from an address on read as bytes. -/
def Reads (w : World) (blk off : Nat) (l : List UInt8) : Prop := ∀ j b, l[j]? = some b → w.cell? ⟨blk, off + j, none⟩ = some (.int .u8 (b.toNat : Int))


set_option maxRecDepth 100000 in
set_option maxHeartbeats 1000000 in
theorem sameR_any (w : World) (b1 o1 c1 b2 o2 c2 : Nat) (l1 l2 : List UInt8) (hr1 : Reads w b1 o1 l1) (hr2 : Reads w b2 o2 l2) (hl : l1.length = l2.length) (hb : l1.length ≤ 1000000000000) :
    Calls Try.prog 22 #[.slice (some ⟨b1, o1, none⟩) l1.length c1, .slice (some ⟨b2, o2, none⟩) l2.length c2] w fun e w' => e = .returned (.bool (decide (l1 = l2))) ∧ Calm w w' := by
  obtain ⟨n, hn⟩ : ∃ n, n = l1.length := ⟨_, rfl⟩
  rw [← hl, ← hn]
  have hb' : n ≤ 1000000000000 := by omega
  have HR1 := Lib.hid hr1
  have HR2 := Lib.hid hr2
  have HN := Lib.hid hn
  have HL := Lib.hid hl
  clear hr1 hr2 hn hl hb
  go_enter Try.func22, Try.ntmps22
  go_wp2_with fail
  go_loopw [5] (fun i wr => ∃ k : Nat, k ≤ n ∧ i = .int .i64 k ∧ Hid (l1.take k = l2.take k ∧ Calm w wr)) (fun i _ => n - (intOf i).toNat)
  case atStart => exact ⟨0, Nat.zero_le _, rfl, (show _ ∧ _ from ⟨rfl, Calm.refl _⟩)⟩
  case round =>
    obtain ⟨k, hk, rfl, HC⟩ := hrel
    by_cases hlt : k < n
    · have hk1 : k < l1.length := by have := HN.out; omega
      have hk2 : k < l2.length := by have := HN.out; have := HL.out; omega
      have d1 : wr.cell? ⟨b1, o1 + k, none⟩ = some (.int .u8 (l1[k].toNat : Int)) := (HC.out.2.cell _).trans (HR1.out k _ (List.getElem?_eq_getElem hk1))
      have d2 : wr.cell? ⟨b2, o2 + k, none⟩ = some (.int .u8 (l2[k].toNat : Int)) := (HC.out.2.cell _).trans (HR2.out k _ (List.getElem?_eq_getElem hk2))
      by_cases he : l1[k] = l2[k]
      · have HE := Lib.hid (take_same_succ HC.out.1 hk1 hk2 he)
        rw [← he] at d2
        have hx := l1[k].toNat_lt
        obtain ⟨x, hxx⟩ : ∃ x : Nat, x = l1[k].toNat := ⟨_, rfl⟩
        rw [← hxx] at d1 d2
        have h0 : (0 : Int) ≤ k := by omega
        have h1 : (k : Int) < n := by omega
        clear he hk1 hk2 hxx hx
        go_wp2_with fail
        go_quiet (fail)
        go_wp2
        go_roundw
        case rel => exact ⟨k + 1, by omega, by go_num, (show _ ∧ _ from ⟨HE.out, HC.out.2.trans ⟨nq, rfl⟩⟩)⟩
        case measure => simp [intOf]; omega
      · have hd : decide (l1 = l2) = false := decide_eq_false (fun e => he (by subst e; rfl))
        have HD := Lib.hid hd
        have hne : ((l1[k].toNat : Int) != (l2[k].toNat : Int)) = true := by
          rw [bne_iff_ne]
          intro e
          exact he (UInt8.toNat_inj.1 (by omega))
        obtain ⟨x, hxx⟩ : ∃ x : Nat, x = l1[k].toNat := ⟨_, rfl⟩
        obtain ⟨y, hyy⟩ : ∃ y : Nat, y = l2[k].toNat := ⟨_, rfl⟩
        rw [← hxx] at d1 hne
        rw [← hyy] at d2 hne
        have h0 : (0 : Int) ≤ k := by omega
        have h1 : (k : Int) < n := by omega
        clear he hk1 hk2 hxx hyy hd
        go_wp2_with fail
        go_quiet (fail)
        go_wp2
        go_ret
        exact ⟨by rw [HD.out]; rfl, HC.out.2.trans ⟨nq, rfl⟩⟩
    · have hkn : k = n := by omega
      subst hkn
      have hd : decide (l1 = l2) = true := decide_eq_true (by
        have h := HC.out.1
        rw [List.take_of_length_le (by have := HN.out; omega), List.take_of_length_le (by have := HN.out; have := HL.out; omega)] at h
        exact h)
      have HD := Lib.hid hd
      clear hd
      go_wp2_with fail
      go_wp2
      go_ret
      exact ⟨by rw [HD.out]; rfl, HC.out.2⟩


theorem wrap_u64 (n : Int) : 0 ≤ IntKind.u64.wrap n ∧ IntKind.u64.wrap n < 18446744073709551616 := by
  have h : IntKind.u64.wrap n = n % 18446744073709551616 := by
    unfold IntKind.wrap
    simp only
    have hs : IntKind.u64.signed = false := rfl
    rw [hs]
    rfl
  omega


/-- A sector of one byte. -/
def one (c : UInt8) : List UInt8 := List.replicate 256 c
theorem one_length (c : UInt8) : (one c).length = 256 := List.length_replicate
def part (c : UInt8) (k : Nat) : List UInt8 := List.replicate k c ++ List.replicate (256 - k) 0
theorem part_zero (c : UInt8) : part c 0 = noughts := by unfold part noughts; rw [List.replicate_zero, List.nil_append]
theorem part_full (c : UInt8) : part c 256 = one c := by unfold part one; rw [Nat.sub_self, List.replicate_zero, List.append_nil]
theorem part_length (c : UInt8) {k : Nat} (hk : k ≤ 256) : (part c k).length = 256 := by unfold part; rw [List.length_append, List.length_replicate, List.length_replicate]; omega
theorem part_set (c : UInt8) {k : Nat} (hk : k < 256) : (part c k).set k c = part c (k + 1) := by
  unfold part
  apply List.ext_getElem?
  intro j
  rw [List.getElem?_set]
  simp only [List.length_append, List.length_replicate, List.getElem?_append, List.getElem?_replicate]
  by_cases hj : k = j
  · subst hj
    rw [if_pos rfl, if_pos (by omega), if_pos (by omega), if_pos (by omega)]
  · rw [if_neg hj]
    by_cases h1 : j < k
    · rw [if_pos h1, if_pos h1, if_pos (by omega), if_pos (by omega)]
    · rw [if_neg h1, if_neg (show ¬ j < k + 1 by omega)]
      by_cases h2 : j - k < 256 - k
      · rw [if_pos h2, if_pos (by omega)]
      · rw [if_neg h2, if_neg (by omega)]
theorem secC_set (l : List UInt8) (k : Nat) (c : UInt8) : (secC l).setIfInBounds k (.int .u8 (c.toNat : Int)) = secC (l.set k c) := by
  unfold secC cellsOf
  rw [List.setIfInBounds_toArray, List.map_set]

theorem run_makeByte (w : World) : (Instr.makeSlice 22 (.int .i64 256) (.int .i64 256)).run Try.prog w = .ok (.slice (some ⟨w.heap.size, 0, none⟩) 256 256) (w.alloc (.cells (secC noughts) 5)) := by
  kernel_rfl

structure FullAt (w : World) (c : UInt8) (k : Nat) (wr : World) : Prop where
  own : wr.heap[w.heap.size]? = some (.cells (secC (part c k)) 5 (0, 0))
  fr : Fr (fun _ => False) w wr

/-- A new slice of bytes in a block of its own. -/
def NewSlice (w : World) (l : List UInt8) (e : Ending) (w' : World) : Prop :=
  ∃ g cap, e = .returned (.slice (some ⟨g, 0, none⟩) l.length cap) ∧ w.heap.size ≤ g ∧ (∃ t, w'.heap[g]? = some (.cells (secC l) t (0, 0))) ∧ Fr (fun _ => False) w w'

set_option maxRecDepth 100000 in
set_option maxHeartbeats 1000000 in
theorem full_any (w : World) (c : UInt8) :
    Calls Try.prog 15 #[.int .u8 (c.toNat : Int)] w fun e w' => NewSlice w (one c) e w' := by
  have HMK := run_makeByte w
  have h0 : FullAt w c 0 (w.alloc (.cells (secC noughts) 5)) := ⟨by rw [part_zero]; exact heap_alloc_new _ _, (Fr.refl _ w).alloc _⟩
  have H0 := Lib.hid h0
  clear h0
  go_enter Try.func15, Try.ntmps15
  go_wp2_with fail
  go_loopw [4] (fun i wr => ∃ k : Nat, k ≤ 256 ∧ i = .int .i64 k ∧ Hid (FullAt w c k wr)) (fun i _ => 256 - (intOf i).toNat)
  case atStart => exact ⟨0, Nat.zero_le _, rfl, H0⟩
  case round =>
    obtain ⟨k, hk, rfl, HF⟩ := hrel
    by_cases hlt : k < 256
    · have d1 : wr.cell? ⟨w.heap.size, k, none⟩ = some (.int .u8 (((part c k)[k]'(by rw [part_length c hk]; exact hlt)).toNat : Int)) := by
        rw [cellAt HF.out.own]
        simp [secC, cellsOf, part_length c hk, hlt]
      have f1 := freeAt HF.out.own k
      have hn : FullAt w c (k + 1) (wr.setCell ⟨w.heap.size, k, none⟩ (.int .u8 (c.toNat : Int))) := by
        refine ⟨?_, HF.out.fr.setCell (p := ⟨w.heap.size, k, none⟩) (Or.inr (Nat.le_refl _)) _⟩
        rw [heap_setCell_same _ _ _ _ _ _ HF.out.own, secC_set, part_set c hlt]
      have HN := Lib.hid hn
      clear hn
      go_wp2
      go_roundw
      case rel => exact ⟨k + 1, by omega, by go_num, HN⟩
      case measure => simp [intOf]; omega
    · have hkn : k = 256 := by omega
      subst hkn
      go_wp2
      go_ret
      refine ⟨w.heap.size, 256, by rw [one_length]; rfl, Nat.le_refl _, ⟨5, ?_⟩, HF.out.fr⟩
      rw [← part_full]
      exact HF.out.own

end Go.Proofs.Ytbmbibepcnpngaa
