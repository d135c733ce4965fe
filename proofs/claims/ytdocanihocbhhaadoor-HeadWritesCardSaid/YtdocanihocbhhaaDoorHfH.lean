/-
  The program's put and number.
-/
import Derived.Test.YtdocanihocbhhaaDoorHfG
import Derived.Lib.BufferWrite
import Derived.Lib.SlBuf
namespace Go.Proofs.YtdocanihocbhhaaDoor.he
set_option maxRecDepth 100000
open Go.RowKit Go.Maps
set_option maxRecDepth 100000

theorem lay_bs (l s : Bts) (a k : Nat) : (bs l).take a ++ bs (s.take k) ++ (bs l).drop (a + k) = bs (layL l a s k) := by
  unfold layL bs
  rw [List.map_append, List.map_append, List.map_take, List.map_take, List.map_drop]
theorem own_copy {w0 w : World} {A : Option Addr} {l : Bts} (ho : Own w w0.heap.size (.slice A 512 512) l) (hl : l.length = 512) (hF : Fr (fun _ => False) w0 w) {a n : Nat} {s : ByteArray} (hn : a + n ≤ 512) (hs : s.size ≤ n) :
    ∃ g, A = some ⟨g, 0, none⟩ ∧ ∃ w', (∀ ty, (Builtin.copy_ #[22, 9] ty #[.slice (some ⟨g, a, none⟩) n n, .string s]).run Tryd.prog w = .ok (goInt s.size) w') ∧ Own w' w0.heap.size (.slice A 512 512) (layL l a s.data.toList s.size) ∧ Fr (fun _ => False) w0 w' := by
  have hsl : s.data.toList.length = s.size := Array.length_toList
  have hll : (layL l a s.data.toList s.size).length = 512 := by rw [layL_len (by omega) (by omega), hl]
  obtain ⟨h1, h2⟩ := ho
  rcases h2 with ⟨_, h0⟩ | ⟨g, cap', cur, e, hg, hh, hc, hm, hz, ht⟩
  · omega
  · rw [hl] at e
    cases e
    have hcl : cur.toList = bs l := by
      rw [hl, Nat.mul_one] at ht
      rw [← ht]
      symm
      apply List.take_of_length_le
      rw [Array.length_toList]
      omega
    have hr := fun ty => Lib.run_copy_row_string (P := Tryd.prog) w 22 9 ty 5 g a n n s cur 5 Tryd.underlying22 (by kernel_rfl) hh hs (by omega)
    refine ⟨g, rfl, _, hr, ?_, ?_⟩
    · have hrow : cur.toList.take a ++ Lib.byteCells s.data.toList ++ cur.toList.drop (a + s.size) = bs (layL l a s.data.toList s.size) := by
        have hts : s.data.toList.take s.size = s.data.toList := List.take_of_length_le (by omega)
        rw [hcl, ← lay_bs, hts]
        rfl
      refine ⟨by rw [bs_length, Nat.mul_one], Or.inr ⟨g, 512, (bs (layL l a s.data.toList s.size)).toArray, by rw [hll], hg, ?_, by rw [hll]; exact Nat.le_refl _, hm, by rw [List.size_toArray, bs_length, hll], ?_⟩⟩
      · rw [hrow]
        exact setRow_heap w g _ _ _ _ hh
      · rw [Nat.mul_one]
        exact List.take_of_length_le (by rw [bs_length]; exact Nat.le_refl _)
    · exact hF.trans (S' := fun i => i = g) ⟨rfl, rfl, rfl, by simp [World.setRow], fun i _ hi => setRow_other w g i _ hi⟩ (fun i hi e => by omega)
set_option maxHeartbeats 2000000 in
theorem pput (w0 w : World) (hT : DT w) (A : Option Addr) (l : Bts) (s : ByteArray) (f a n : Nat) (hf : plL[f]? = some (a, n)) (ho : Own w w0.heap.size (.slice A 512 512) l) (hl : l.length = 512) (hF : Fr (fun _ => False) w0 w) (hs : s.size ≤ n) :
    Calls Tryd.prog 32 #[.int .i64 (f : Int), .slice A 512 512, .string s] w fun e w' => e = .returned (.tuple #[]) ∧ Own w' w0.heap.size (.slice A 512 512) (layL l a s.data.toList s.size) ∧ Fr (fun _ => False) w0 w' := by
  have hle := pl_le hf
  obtain ⟨g, rfl, -⟩ := Own.at_ (l := l) (A := A) (cap := 512) (k := 0) (by rw [hl]; exact ho) (by omega)
  have H := Lib.hid (pof w hT f a n hf g 0 512 512 (by decide))
  rw [Nat.zero_add] at H
  have HC := Lib.hid (fun wx (hFx : Fr (fun _ => False) w wx) => own_copy (w0 := w0) (w := wx) (ho.kept hFx) hl (hF.trans hFx (fun _ _ e => e)) (a := a) (n := n) (s := s) (by omega) hs)
  clear hT ho hF hle hl hf
  go_enter Tryd.func32, Tryd.ntmps32
  go_wp2_with fail
  refine H.out.mono ?_
  rintro e w1 ⟨rfl, hF1⟩
  obtain ⟨g2, eg, w2, hr, ho, hF2⟩ := HC.out w1 hF1
  cases eg
  have HE := Lib.hid (⟨ho, hF2⟩ : _ ∧ _)
  have HR := Lib.hid hr
  clear hF1 ho hF2 hr HC H
  go_wp2_with (refine Lib.wpList_copy_run w1 rfl (.tmp 8) (.tmp 9) 22 9 rfl (.slice (some ⟨g, a, none⟩) n n) (.string s) rfl rfl (HR.out _) ?_)
  exact (show _ ∧ _ from ⟨rfl, .tuple #[], results_none rfl _ _ _, rfl, HE.out⟩)
end Go.Proofs.YtdocanihocbhhaaDoor.he
