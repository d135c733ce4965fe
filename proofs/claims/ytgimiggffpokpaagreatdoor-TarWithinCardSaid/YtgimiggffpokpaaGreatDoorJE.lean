/-
  Texts that belong together, joined: HfG HfH.
-/
import Derived.Test.YtgimiggffpokpaaGreatDoorHfF
import Derived.Lib.BufferWrite
import Derived.Lib.SlBuf

/-
  The program's mayBe.
-/

namespace Go.Proofs.YtgimiggffpokpaaGreatDoor.he
set_option maxRecDepth 100000
open Go.RowKit Go.Maps
set_option maxRecDepth 100000

/-- May all that is no name be in a header? -/
def okR (nm lk : ByteArray) (md sz : Int) (kn : Nat) : Prop := (0 : UInt8) ∉ nm.data.toList ∧ (0 : UInt8) ∉ lk.data.toList ∧ lk.size ≤ 100 ∧ 0 ≤ md ∧ md ≤ 4095 ∧ 0 ≤ sz ∧ sz ≤ 262144 ∧ kn ≠ 0
instance (nm lk : ByteArray) (md sz : Int) (kn : Nat) : Decidable (okR nm lk md sz kn) := inferInstanceAs (Decidable (_ ∧ _))
set_option maxHeartbeats 8000000 in
theorem pmay (w : World) (hT : DT w) (nm lk : ByteArray) (md sz : Int) (kn : Nat) : Calls Tryz.prog 58 #[.agg #[.string nm, .string lk, .int .i64 md, .int .i64 sz, .int .u8 (kn : Int)]] w fun e w' => e = .returned (.bool (decide (okR nm lk md sz kn))) ∧ Fr (fun _ => False) w w' := by
  have hF : Fr (fun _ => False) w (w.alloc (rec5 (.string nm) (.string lk) (.int .i64 md) (.int .i64 sz) (.int .u8 (kn : Int)))) := (Fr.refl _ w).alloc _
  have HF := Lib.hid (fun n => hF.drewN n)
  have HN1 := Lib.hid (fun m => (pnought ((w.alloc (rec5 (.string nm) (.string lk) (.int .i64 md) (.int .i64 sz) (.int .u8 (kn : Int)))).drewN m) nm).mono fun _ _ ⟨a, c⟩ => (⟨a, c.symm⟩ : _ ∧ _ = (w.alloc (rec5 (.string nm) (.string lk) (.int .i64 md) (.int .i64 sz) (.int .u8 (kn : Int)))).drewN m))
  have HN2 := Lib.hid (fun m => (pnought ((w.alloc (rec5 (.string nm) (.string lk) (.int .i64 md) (.int .i64 sz) (.int .u8 (kn : Int)))).drewN m) lk).mono fun _ _ ⟨a, c⟩ => (⟨a, c.symm⟩ : _ ∧ _ = (w.alloc (rec5 (.string nm) (.string lk) (.int .i64 md) (.int .i64 sz) (.int .u8 (kn : Int)))).drewN m))
  have HZ := Lib.hid (fun m => (show Calls Tryz.prog 82 #[.int .i64 8] ((w.alloc (rec5 (.string nm) (.string lk) (.int .i64 md) (.int .i64 sz) (.int .u8 (kn : Int)))).drewN m) fun e w' => e = .returned (.int .i64 100) ∧ w' = (w.alloc (rec5 (.string nm) (.string lk) (.int .i64 md) (.int .i64 sz) (.int .u8 (kn : Int)))).drewN m from (psize _ (hT.keep (hF.drewN m)) 8 157 100 rfl).mono fun _ _ ⟨a, c⟩ => ⟨a, c.symm⟩))
  obtain ⟨c0, c1, c2, c3, c4⟩ := rec_cells (w := w) (Fr.refl (fun _ => False) (w.alloc (rec5 (.string nm) (.string lk) (.int .i64 md) (.int .i64 sz) (.int .u8 (kn : Int)))))
  obtain ⟨R, hR⟩ : ∃ R, R = decide (okR nm lk md sz kn) := ⟨_, rfl⟩
  rw [← hR]
  have HNO := Lib.hid (show ¬ okR nm lk md sz kn → R = false from fun h => hR.trans (decide_eq_false h))
  have HYES := Lib.hid (show okR nm lk md sz kn → R = true from fun h => hR.trans (decide_eq_true h))
  clear hR hT hF
  by_cases a1 : (0 : UInt8) ∈ nm.data.toList
  · have HE := Lib.hid (HNO.out (fun h => h.1 a1))
    rw [decide_eq_true a1] at HN1
    clear a1
    clear HNO HYES
    go_enter Tryz.func58, Tryz.ntmps58
    go_wp2_with fail
    go_quiet ((first | (go_at_call 84; (with_reducible exact Calls.quiet_of_same (HN1.out _))) | (go_at_call 84; (with_reducible exact Calls.quiet_of_same (HN2.out _))) | (go_at_call 82; (with_reducible exact Calls.quiet_of_same (HZ.out _)))))
    go_wp2_with fail
    go_ret
    exact ⟨by rw [HE.out]; rfl, HF.out _⟩
  rw [decide_eq_false a1] at HN1
  by_cases a2 : (0 : UInt8) ∈ lk.data.toList
  · have HE := Lib.hid (HNO.out (fun h => h.2.1 a2))
    rw [decide_eq_true a2] at HN2
    clear a1 a2
    clear HNO HYES
    go_enter Tryz.func58, Tryz.ntmps58
    go_wp2_with fail
    go_quiet ((first | (go_at_call 84; (with_reducible exact Calls.quiet_of_same (HN1.out _))) | (go_at_call 84; (with_reducible exact Calls.quiet_of_same (HN2.out _))) | (go_at_call 82; (with_reducible exact Calls.quiet_of_same (HZ.out _)))))
    go_wp2_with fail
    go_ret
    exact ⟨by rw [HE.out]; rfl, HF.out _⟩
  rw [decide_eq_false a2] at HN2
  by_cases a3 : lk.size ≤ 100
  case neg =>
    have HE := Lib.hid (HNO.out (fun h => a3 h.2.2.1))
    have a3' : decide ((lk.size : Int) ≤ 100) = false := decide_eq_false (by omega)
    clear a1 a2 a3
    clear HNO HYES
    go_enter Tryz.func58, Tryz.ntmps58
    go_wp2_with fail
    go_quiet ((first | (go_at_call 84; (with_reducible exact Calls.quiet_of_same (HN1.out _))) | (go_at_call 84; (with_reducible exact Calls.quiet_of_same (HN2.out _))) | (go_at_call 82; (with_reducible exact Calls.quiet_of_same (HZ.out _)))))
    go_wp2_with fail
    go_ret
    exact ⟨by rw [HE.out]; rfl, HF.out _⟩
  have a3' : decide ((lk.size : Int) ≤ 100) = true := decide_eq_true (by omega)
  by_cases a4 : 0 ≤ md
  case neg =>
    have HE := Lib.hid (HNO.out (fun h => a4 h.2.2.2.1))
    have a4' : decide (0 ≤ md) = false := decide_eq_false a4
    clear a1 a2 a3 a4
    clear HNO HYES
    go_enter Tryz.func58, Tryz.ntmps58
    go_wp2_with fail
    go_quiet ((first | (go_at_call 84; (with_reducible exact Calls.quiet_of_same (HN1.out _))) | (go_at_call 84; (with_reducible exact Calls.quiet_of_same (HN2.out _))) | (go_at_call 82; (with_reducible exact Calls.quiet_of_same (HZ.out _)))))
    go_wp2_with fail
    go_ret
    exact ⟨by rw [HE.out]; rfl, HF.out _⟩
  have a4' : decide (0 ≤ md) = true := decide_eq_true a4
  by_cases a5 : md ≤ 4095
  case neg =>
    have HE := Lib.hid (HNO.out (fun h => a5 h.2.2.2.2.1))
    have a5' : decide (md ≤ 4095) = false := decide_eq_false a5
    clear a1 a2 a3 a4 a5
    clear HNO HYES
    go_enter Tryz.func58, Tryz.ntmps58
    go_wp2_with fail
    go_quiet ((first | (go_at_call 84; (with_reducible exact Calls.quiet_of_same (HN1.out _))) | (go_at_call 84; (with_reducible exact Calls.quiet_of_same (HN2.out _))) | (go_at_call 82; (with_reducible exact Calls.quiet_of_same (HZ.out _)))))
    go_wp2_with fail
    go_ret
    exact ⟨by rw [HE.out]; rfl, HF.out _⟩
  have a5' : decide (md ≤ 4095) = true := decide_eq_true a5
  by_cases a6 : 0 ≤ sz
  case neg =>
    have HE := Lib.hid (HNO.out (fun h => a6 h.2.2.2.2.2.1))
    have a6' : decide (0 ≤ sz) = false := decide_eq_false a6
    clear a1 a2 a3 a4 a5 a6
    clear HNO HYES
    go_enter Tryz.func58, Tryz.ntmps58
    go_wp2_with fail
    go_quiet ((first | (go_at_call 84; (with_reducible exact Calls.quiet_of_same (HN1.out _))) | (go_at_call 84; (with_reducible exact Calls.quiet_of_same (HN2.out _))) | (go_at_call 82; (with_reducible exact Calls.quiet_of_same (HZ.out _)))))
    go_wp2_with fail
    go_ret
    exact ⟨by rw [HE.out]; rfl, HF.out _⟩
  have a6' : decide (0 ≤ sz) = true := decide_eq_true a6
  by_cases a7 : sz ≤ 262144
  case neg =>
    have HE := Lib.hid (HNO.out (fun h => a7 h.2.2.2.2.2.2.1))
    have a7' : decide (sz ≤ 262144) = false := decide_eq_false a7
    clear a1 a2 a3 a4 a5 a6 a7
    clear HNO HYES
    go_enter Tryz.func58, Tryz.ntmps58
    go_wp2_with fail
    go_quiet ((first | (go_at_call 84; (with_reducible exact Calls.quiet_of_same (HN1.out _))) | (go_at_call 84; (with_reducible exact Calls.quiet_of_same (HN2.out _))) | (go_at_call 82; (with_reducible exact Calls.quiet_of_same (HZ.out _)))))
    go_wp2_with fail
    go_ret
    exact ⟨by rw [HE.out]; rfl, HF.out _⟩
  have a7' : decide (sz ≤ 262144) = true := decide_eq_true a7
  by_cases a8 : kn = 0
  case pos =>
    have HE := Lib.hid (HNO.out (fun h => h.2.2.2.2.2.2.2 a8))
    have a8' : ((kn : Int) != 0) = false := by rw [a8]; rfl
    clear a1 a2 a3 a4 a5 a6 a7 a8
    clear HNO HYES
    go_enter Tryz.func58, Tryz.ntmps58
    go_wp2_with fail
    go_quiet ((first | (go_at_call 84; (with_reducible exact Calls.quiet_of_same (HN1.out _))) | (go_at_call 84; (with_reducible exact Calls.quiet_of_same (HN2.out _))) | (go_at_call 82; (with_reducible exact Calls.quiet_of_same (HZ.out _)))))
    go_wp2_with fail
    go_ret
    exact ⟨by rw [HE.out]; rfl, HF.out _⟩
  have a8' : ((kn : Int) != 0) = true := bne_iff_ne.2 (by omega)
  have HE := Lib.hid (HYES.out ⟨a1, a2, a3, a4, a5, a6, a7, a8⟩)
  clear HNO HYES a1 a2 a3 a4 a5 a6 a7 a8
  go_enter Tryz.func58, Tryz.ntmps58
  go_wp2_with fail
  go_quiet ((first | (go_at_call 84; (with_reducible exact Calls.quiet_of_same (HN1.out _))) | (go_at_call 84; (with_reducible exact Calls.quiet_of_same (HN2.out _))) | (go_at_call 82; (with_reducible exact Calls.quiet_of_same (HZ.out _)))))
  go_wp2_with fail
  go_ret
  exact ⟨by rw [HE.out]; rfl, HF.out _⟩
end Go.Proofs.YtgimiggffpokpaaGreatDoor.he

/-
  The program's put and number.
-/


namespace Go.Proofs.YtgimiggffpokpaaGreatDoor.he
set_option maxRecDepth 100000
open Go.RowKit Go.Maps
set_option maxRecDepth 100000

theorem lay_bs (l s : Bts) (a k : Nat) : (bs l).take a ++ bs (s.take k) ++ (bs l).drop (a + k) = bs (layL l a s k) := by
  unfold layL bs
  rw [List.map_append, List.map_append, List.map_take, List.map_take, List.map_drop]
theorem own_copy {w0 w : World} {A : Option Addr} {l : Bts} (ho : Own w w0.heap.size (.slice A 512 512) l) (hl : l.length = 512) (hF : Fr (fun _ => False) w0 w) {a n : Nat} {s : ByteArray} (hn : a + n ≤ 512) (hs : s.size ≤ n) :
    ∃ g, A = some ⟨g, 0, none⟩ ∧ ∃ w', (∀ ty, (Builtin.copy_ #[22, 9] ty #[.slice (some ⟨g, a, none⟩) n n, .string s]).run Tryz.prog w = .ok (goInt s.size) w') ∧ Own w' w0.heap.size (.slice A 512 512) (layL l a s.data.toList s.size) ∧ Fr (fun _ => False) w0 w' := by
  have hsl : s.data.toList.length = s.size := Array.length_toList
  have hll : (layL l a s.data.toList s.size).length = 512 := by rw [layL_len (by omega) (by omega), hl]
  obtain ⟨h1, h2⟩ := ho
  rcases h2 with ⟨_, h0⟩ | ⟨g, cap', cur, e, hg, hh, hc, hm, hz, ht⟩
  · omega
  · rw [hl] at e
    cases e
    have hcl : cur.toList = bs l := by
      rw [hl, Nat.mul_one] at ht
      rw [← ht]
      symm
      apply List.take_of_length_le
      rw [Array.length_toList]
      omega
    have hr := fun ty => Lib.run_copy_row_string (P := Tryz.prog) w 22 9 ty 5 g a n n s cur 5 Tryz.underlying22 (by kernel_rfl) hh hs (by omega)
    refine ⟨g, rfl, _, hr, ?_, ?_⟩
    · have hrow : cur.toList.take a ++ Lib.byteCells s.data.toList ++ cur.toList.drop (a + s.size) = bs (layL l a s.data.toList s.size) := by
        have hts : s.data.toList.take s.size = s.data.toList := List.take_of_length_le (by omega)
        rw [hcl, ← lay_bs, hts]
        rfl
      refine ⟨by rw [bs_length, Nat.mul_one], Or.inr ⟨g, 512, (bs (layL l a s.data.toList s.size)).toArray, by rw [hll], hg, ?_, by rw [hll]; exact Nat.le_refl _, hm, by rw [List.size_toArray, bs_length, hll], ?_⟩⟩
      · rw [hrow]
        exact setRow_heap w g _ _ _ _ hh
      · rw [Nat.mul_one]
        exact List.take_of_length_le (by rw [bs_length]; exact Nat.le_refl _)
    · exact hF.trans (S' := fun i => i = g) ⟨rfl, rfl, rfl, by simp [World.setRow], fun i _ hi => setRow_other w g i _ hi⟩ (fun i hi e => by omega)
set_option maxHeartbeats 2000000 in
theorem pput (w0 w : World) (hT : DT w) (A : Option Addr) (l : Bts) (s : ByteArray) (f a n : Nat) (hf : plL[f]? = some (a, n)) (ho : Own w w0.heap.size (.slice A 512 512) l) (hl : l.length = 512) (hF : Fr (fun _ => False) w0 w) (hs : s.size ≤ n) :
    Calls Tryz.prog 59 #[.int .i64 (f : Int), .slice A 512 512, .string s] w fun e w' => e = .returned (.tuple #[]) ∧ Own w' w0.heap.size (.slice A 512 512) (layL l a s.data.toList s.size) ∧ Fr (fun _ => False) w0 w' := by
  have hle := pl_le hf
  obtain ⟨g, rfl, -⟩ := Own.at_ (l := l) (A := A) (cap := 512) (k := 0) (by rw [hl]; exact ho) (by omega)
  have H := Lib.hid (pof w hT f a n hf g 0 512 512 (by decide))
  rw [Nat.zero_add] at H
  have HC := Lib.hid (fun wx (hFx : Fr (fun _ => False) w wx) => own_copy (w0 := w0) (w := wx) (ho.kept hFx) hl (hF.trans hFx (fun _ _ e => e)) (a := a) (n := n) (s := s) (by omega) hs)
  clear hT ho hF hle hl hf
  go_enter Tryz.func59, Tryz.ntmps59
  go_wp2_with fail
  refine H.out.mono ?_
  rintro e w1 ⟨rfl, hF1⟩
  obtain ⟨g2, eg, w2, hr, ho, hF2⟩ := HC.out w1 hF1
  cases eg
  have HE := Lib.hid (⟨ho, hF2⟩ : _ ∧ _)
  have HR := Lib.hid hr
  clear hF1 ho hF2 hr HC H
  go_wp2_with (refine Lib.wpList_copy_run w1 rfl (.tmp 8) (.tmp 9) 22 9 rfl (.slice (some ⟨g, a, none⟩) n n) (.string s) rfl rfl (HR.out _) ?_)
  exact (show _ ∧ _ from ⟨rfl, .tuple #[], results_none rfl _ _ _, rfl, HE.out⟩)
end Go.Proofs.YtgimiggffpokpaaGreatDoor.he
