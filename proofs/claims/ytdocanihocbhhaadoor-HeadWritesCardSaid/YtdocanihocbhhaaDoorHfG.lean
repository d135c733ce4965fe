/-
  The program's mayBe.
-/
import Derived.Test.YtdocanihocbhhaaDoorHfF
namespace Go.Proofs.YtdocanihocbhhaaDoor.he
set_option maxRecDepth 100000
open Go.RowKit Go.Maps
set_option maxRecDepth 100000

/-- May all that is no name be in a header? -/
def okR (nm lk : ByteArray) (md sz : Int) (kn : Nat) : Prop := (0 : UInt8) ∉ nm.data.toList ∧ (0 : UInt8) ∉ lk.data.toList ∧ lk.size ≤ 100 ∧ 0 ≤ md ∧ md ≤ 4095 ∧ 0 ≤ sz ∧ sz ≤ 262144 ∧ kn ≠ 0
instance (nm lk : ByteArray) (md sz : Int) (kn : Nat) : Decidable (okR nm lk md sz kn) := inferInstanceAs (Decidable (_ ∧ _))
set_option maxHeartbeats 8000000 in
theorem pmay (w : World) (hT : DT w) (nm lk : ByteArray) (md sz : Int) (kn : Nat) : Calls Tryd.prog 31 #[.agg #[.string nm, .string lk, .int .i64 md, .int .i64 sz, .int .u8 (kn : Int)]] w fun e w' => e = .returned (.bool (decide (okR nm lk md sz kn))) ∧ Fr (fun _ => False) w w' := by
  have hF : Fr (fun _ => False) w (w.alloc (rec5 (.string nm) (.string lk) (.int .i64 md) (.int .i64 sz) (.int .u8 (kn : Int)))) := (Fr.refl _ w).alloc _
  have HF := Lib.hid (fun n => hF.drewN n)
  have HN1 := Lib.hid (fun m => (pnought ((w.alloc (rec5 (.string nm) (.string lk) (.int .i64 md) (.int .i64 sz) (.int .u8 (kn : Int)))).drewN m) nm).mono fun _ _ ⟨a, c⟩ => (⟨a, c.symm⟩ : _ ∧ _ = (w.alloc (rec5 (.string nm) (.string lk) (.int .i64 md) (.int .i64 sz) (.int .u8 (kn : Int)))).drewN m))
  have HN2 := Lib.hid (fun m => (pnought ((w.alloc (rec5 (.string nm) (.string lk) (.int .i64 md) (.int .i64 sz) (.int .u8 (kn : Int)))).drewN m) lk).mono fun _ _ ⟨a, c⟩ => (⟨a, c.symm⟩ : _ ∧ _ = (w.alloc (rec5 (.string nm) (.string lk) (.int .i64 md) (.int .i64 sz) (.int .u8 (kn : Int)))).drewN m))
  have HZ := Lib.hid (fun m => (show Calls Tryd.prog 44 #[.int .i64 8] ((w.alloc (rec5 (.string nm) (.string lk) (.int .i64 md) (.int .i64 sz) (.int .u8 (kn : Int)))).drewN m) fun e w' => e = .returned (.int .i64 100) ∧ w' = (w.alloc (rec5 (.string nm) (.string lk) (.int .i64 md) (.int .i64 sz) (.int .u8 (kn : Int)))).drewN m from (psize _ (hT.keep (hF.drewN m)) 8 157 100 rfl).mono fun _ _ ⟨a, c⟩ => ⟨a, c.symm⟩))
  obtain ⟨c0, c1, c2, c3, c4⟩ := rec_cells (w := w) (Fr.refl (fun _ => False) (w.alloc (rec5 (.string nm) (.string lk) (.int .i64 md) (.int .i64 sz) (.int .u8 (kn : Int)))))
  obtain ⟨R, hR⟩ : ∃ R, R = decide (okR nm lk md sz kn) := ⟨_, rfl⟩
  rw [← hR]
  have HNO := Lib.hid (show ¬ okR nm lk md sz kn → R = false from fun h => hR.trans (decide_eq_false h))
  have HYES := Lib.hid (show okR nm lk md sz kn → R = true from fun h => hR.trans (decide_eq_true h))
  clear hR hT hF
  by_cases a1 : (0 : UInt8) ∈ nm.data.toList
  · have HE := Lib.hid (HNO.out (fun h => h.1 a1))
    rw [decide_eq_true a1] at HN1
    clear a1
    clear HNO HYES
    go_enter Tryd.func31, Tryd.ntmps31
    go_wp2_with fail
    go_quiet ((first | (go_at_call 46; (with_reducible exact Calls.quiet_of_same (HN1.out _))) | (go_at_call 46; (with_reducible exact Calls.quiet_of_same (HN2.out _))) | (go_at_call 44; (with_reducible exact Calls.quiet_of_same (HZ.out _)))))
    go_wp2_with fail
    go_ret
    exact ⟨by rw [HE.out]; rfl, HF.out _⟩
  rw [decide_eq_false a1] at HN1
  by_cases a2 : (0 : UInt8) ∈ lk.data.toList
  · have HE := Lib.hid (HNO.out (fun h => h.2.1 a2))
    rw [decide_eq_true a2] at HN2
    clear a1 a2
    clear HNO HYES
    go_enter Tryd.func31, Tryd.ntmps31
    go_wp2_with fail
    go_quiet ((first | (go_at_call 46; (with_reducible exact Calls.quiet_of_same (HN1.out _))) | (go_at_call 46; (with_reducible exact Calls.quiet_of_same (HN2.out _))) | (go_at_call 44; (with_reducible exact Calls.quiet_of_same (HZ.out _)))))
    go_wp2_with fail
    go_ret
    exact ⟨by rw [HE.out]; rfl, HF.out _⟩
  rw [decide_eq_false a2] at HN2
  by_cases a3 : lk.size ≤ 100
  case neg =>
    have HE := Lib.hid (HNO.out (fun h => a3 h.2.2.1))
    have a3' : decide ((lk.size : Int) ≤ 100) = false := decide_eq_false (by omega)
    clear a1 a2 a3
    clear HNO HYES
    go_enter Tryd.func31, Tryd.ntmps31
    go_wp2_with fail
    go_quiet ((first | (go_at_call 46; (with_reducible exact Calls.quiet_of_same (HN1.out _))) | (go_at_call 46; (with_reducible exact Calls.quiet_of_same (HN2.out _))) | (go_at_call 44; (with_reducible exact Calls.quiet_of_same (HZ.out _)))))
    go_wp2_with fail
    go_ret
    exact ⟨by rw [HE.out]; rfl, HF.out _⟩
  have a3' : decide ((lk.size : Int) ≤ 100) = true := decide_eq_true (by omega)
  by_cases a4 : 0 ≤ md
  case neg =>
    have HE := Lib.hid (HNO.out (fun h => a4 h.2.2.2.1))
    have a4' : decide (0 ≤ md) = false := decide_eq_false a4
    clear a1 a2 a3 a4
    clear HNO HYES
    go_enter Tryd.func31, Tryd.ntmps31
    go_wp2_with fail
    go_quiet ((first | (go_at_call 46; (with_reducible exact Calls.quiet_of_same (HN1.out _))) | (go_at_call 46; (with_reducible exact Calls.quiet_of_same (HN2.out _))) | (go_at_call 44; (with_reducible exact Calls.quiet_of_same (HZ.out _)))))
    go_wp2_with fail
    go_ret
    exact ⟨by rw [HE.out]; rfl, HF.out _⟩
  have a4' : decide (0 ≤ md) = true := decide_eq_true a4
  by_cases a5 : md ≤ 4095
  case neg =>
    have HE := Lib.hid (HNO.out (fun h => a5 h.2.2.2.2.1))
    have a5' : decide (md ≤ 4095) = false := decide_eq_false a5
    clear a1 a2 a3 a4 a5
    clear HNO HYES
    go_enter Tryd.func31, Tryd.ntmps31
    go_wp2_with fail
    go_quiet ((first | (go_at_call 46; (with_reducible exact Calls.quiet_of_same (HN1.out _))) | (go_at_call 46; (with_reducible exact Calls.quiet_of_same (HN2.out _))) | (go_at_call 44; (with_reducible exact Calls.quiet_of_same (HZ.out _)))))
    go_wp2_with fail
    go_ret
    exact ⟨by rw [HE.out]; rfl, HF.out _⟩
  have a5' : decide (md ≤ 4095) = true := decide_eq_true a5
  by_cases a6 : 0 ≤ sz
  case neg =>
    have HE := Lib.hid (HNO.out (fun h => a6 h.2.2.2.2.2.1))
    have a6' : decide (0 ≤ sz) = false := decide_eq_false a6
    clear a1 a2 a3 a4 a5 a6
    clear HNO HYES
    go_enter Tryd.func31, Tryd.ntmps31
    go_wp2_with fail
    go_quiet ((first | (go_at_call 46; (with_reducible exact Calls.quiet_of_same (HN1.out _))) | (go_at_call 46; (with_reducible exact Calls.quiet_of_same (HN2.out _))) | (go_at_call 44; (with_reducible exact Calls.quiet_of_same (HZ.out _)))))
    go_wp2_with fail
    go_ret
    exact ⟨by rw [HE.out]; rfl, HF.out _⟩
  have a6' : decide (0 ≤ sz) = true := decide_eq_true a6
  by_cases a7 : sz ≤ 262144
  case neg =>
    have HE := Lib.hid (HNO.out (fun h => a7 h.2.2.2.2.2.2.1))
    have a7' : decide (sz ≤ 262144) = false := decide_eq_false a7
    clear a1 a2 a3 a4 a5 a6 a7
    clear HNO HYES
    go_enter Tryd.func31, Tryd.ntmps31
    go_wp2_with fail
    go_quiet ((first | (go_at_call 46; (with_reducible exact Calls.quiet_of_same (HN1.out _))) | (go_at_call 46; (with_reducible exact Calls.quiet_of_same (HN2.out _))) | (go_at_call 44; (with_reducible exact Calls.quiet_of_same (HZ.out _)))))
    go_wp2_with fail
    go_ret
    exact ⟨by rw [HE.out]; rfl, HF.out _⟩
  have a7' : decide (sz ≤ 262144) = true := decide_eq_true a7
  by_cases a8 : kn = 0
  case pos =>
    have HE := Lib.hid (HNO.out (fun h => h.2.2.2.2.2.2.2 a8))
    have a8' : ((kn : Int) != 0) = false := by rw [a8]; rfl
    clear a1 a2 a3 a4 a5 a6 a7 a8
    clear HNO HYES
    go_enter Tryd.func31, Tryd.ntmps31
    go_wp2_with fail
    go_quiet ((first | (go_at_call 46; (with_reducible exact Calls.quiet_of_same (HN1.out _))) | (go_at_call 46; (with_reducible exact Calls.quiet_of_same (HN2.out _))) | (go_at_call 44; (with_reducible exact Calls.quiet_of_same (HZ.out _)))))
    go_wp2_with fail
    go_ret
    exact ⟨by rw [HE.out]; rfl, HF.out _⟩
  have a8' : ((kn : Int) != 0) = true := bne_iff_ne.2 (by omega)
  have HE := Lib.hid (HYES.out ⟨a1, a2, a3, a4, a5, a6, a7, a8⟩)
  clear HNO HYES a1 a2 a3 a4 a5 a6 a7 a8
  go_enter Tryd.func31, Tryd.ntmps31
  go_wp2_with fail
  go_quiet ((first | (go_at_call 46; (with_reducible exact Calls.quiet_of_same (HN1.out _))) | (go_at_call 46; (with_reducible exact Calls.quiet_of_same (HN2.out _))) | (go_at_call 44; (with_reducible exact Calls.quiet_of_same (HZ.out _)))))
  go_wp2_with fail
  go_ret
  exact ⟨by rw [HE.out]; rfl, HF.out _⟩
end Go.Proofs.YtdocanihocbhhaaDoor.he
