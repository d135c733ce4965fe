/-
  The order of texts; the document's inode and right.
-/
import Derived.Test.YtppkmfhlmmlckaaNmC
namespace Go.Proofs.Ytppkmfhlmmlckaa.nm
set_option maxRecDepth 100000
open Go.RowKit Go.Maps
set_option maxRecDepth 100000

theorem less_irrefl : ∀ a : List UInt8, Op.bytesLess a a = false
  | [] => rfl
  | x :: r => by simp [Op.bytesLess, less_irrefl r]
theorem less_trans : ∀ a b c : List UInt8, Op.bytesLess a b = true → Op.bytesLess b c = true → Op.bytesLess a c = true
  | _, _, [], _, h => by
    rename_i b _
    cases b <;> simp [Op.bytesLess] at h
  | [], _, _ :: _, _, _ => by simp [Op.bytesLess]
  | _ :: _, [], _ :: _, h, _ => by simp [Op.bytesLess] at h
  | x :: a, y :: b, z :: c, h, k => by
    simp only [Op.bytesLess] at h k ⊢
    by_cases h1 : x = y
    · subst h1
      by_cases h2 : x = z
      · subst h2
        simp at h k ⊢
        exact less_trans a b c h k
      · simp [h2] at h k ⊢
        exact k
    · by_cases h2 : y = z
      · subst h2
        simp [h1] at h k ⊢
        exact h
      · simp [h1, h2] at h k
        have : x < z := UInt8.lt_trans h k
        simp [this]
theorem less_total : ∀ a b : List UInt8, a ≠ b → Op.bytesLess a b = false → Op.bytesLess b a = true
  | [], [], h, _ => absurd rfl h
  | [], _ :: _, _, h => by simp [Op.bytesLess] at h
  | _ :: _, [], _, _ => by simp [Op.bytesLess]
  | x :: a, y :: b, h, k => by
    simp only [Op.bytesLess] at k ⊢
    by_cases h1 : x = y
    · subst h1
      simp at k h ⊢
      exact less_total a b h k
    · have h1' : y ≠ x := fun e => h1 e.symm
      simp [h1, h1'] at k ⊢
      exact Std.lt_of_le_of_ne k h1'
@[go_sem] theorem binOp_string_leq (t : TypeId) (a b : ByteArray) : Go.binOp .leq t (.string a) (.string b) = pure (.bool (Op.bytesLess a.toList b.toList || (a.toList == b.toList))) := by simp [Go.binOp, Op.stringOp]
@[go_sem] theorem binOp_string_gtr (t : TypeId) (a b : ByteArray) : Go.binOp .gtr t (.string a) (.string b) = pure (.bool !(Op.bytesLess a.toList b.toList || (a.toList == b.toList))) := by simp [Go.binOp, Op.stringOp]
@[go_sem] theorem binOp_string_geq (t : TypeId) (a b : ByteArray) : Go.binOp .geq t (.string a) (.string b) = pure (.bool !(Op.bytesLess a.toList b.toList)) := by simp [Go.binOp, Op.stringOp]

/-- An entry that may stand. -/
def inB (n : Int) : Bool := decide (0 ≤ n) && decide (n ≤ 65535)
def itB (x : Nm) : Bool := nmB x.1 && inB x.2
def ltN (a b : Nm) : Bool := Op.bytesLess a.1.toList b.1.toList
/-- The first k entries may stand, and rise. -/
def OkTo (l : List Nm) (k : Nat) : Prop := ∀ i x, i < k → l[i]? = some x → itB x = true ∧ ∀ j y, j + 1 = i → l[j]? = some y → ltN y x = true
/-- A directory. -/
def RightN (l : List Nm) : Prop := OkTo l l.length ∧ l.length ≤ 256
noncomputable instance (l : List Nm) : Decidable (RightN l) := Classical.propDecidable _
theorem OkTo.zero (l : List Nm) : OkTo l 0 := fun i x h => by omega
theorem OkTo.next {l : List Nm} {k : Nat} {x : Nm} (h : OkTo l k) (hx : l[k]? = some x) (hi : itB x = true) (hp : ∀ j y, j + 1 = k → l[j]? = some y → ltN y x = true) : OkTo l (k + 1) := fun i z hik hz => by
  by_cases e : i = k
  · subst e
    rw [hx] at hz
    cases hz
    exact ⟨hi, hp⟩
  · exact h i z (by omega) hz
theorem rinode (w : World) (n : Int) : Calls Try.prog 39 #[.int .i64 n] w fun e w' => e = .returned (.bool (inB n)) ∧ w = w' := by
  unfold inB
  by_cases h0 : 0 ≤ n
  · rw [decide_eq_true h0, Bool.true_and]
    go_enter Try.func39, Try.ntmps39
    go_wp2_with fail
    go_ret
    exact ⟨rfl, rfl⟩
  · rw [decide_eq_false h0, Bool.false_and]
    go_enter Try.func39, Try.ntmps39
    go_wp2_with fail
    go_ret
    exact ⟨rfl, rfl⟩

set_option maxHeartbeats 4000000 in
theorem rright (w : World) (A : Option Addr) (cap : Nat) (l : List Nm) (hr : RdN w w.heap.size A l) (hb : l.length ≤ 140737488351232) :
    Calls Try.prog 28 #[.slice A l.length cap] w fun e w' => e = .returned (.bool (decide (RightN l))) ∧ Calm w w' := by
  obtain ⟨n, hn⟩ : ∃ n, n = l.length := ⟨_, rfl⟩
  rw [← hn] at hb ⊢
  have HR := Lib.hid hr
  have HN := Lib.hid hn
  obtain ⟨rb, hrb⟩ : ∃ rb, rb = decide (RightN l) := ⟨_, rfl⟩
  have HRB := Lib.hid hrb
  rw [← hrb]
  clear hr hn hrb
  go_enter Try.func28, Try.ntmps28
  go_wp2_with fail
  go_loopw [3] (fun i wr => ∃ k : Nat, k ≤ n ∧ i = .int .i64 k ∧ Hid (OkTo l k ∧ Calm w wr)) (fun i _ => n - (intOf i).toNat)
  case atStart => exact ⟨0, Nat.zero_le _, rfl, (show _ ∧ _ from ⟨OkTo.zero l, Calm.refl _⟩)⟩
  case round =>
    obtain ⟨k, hk, rfl, HC⟩ := hrel
    by_cases hlt : k < n
    · obtain ⟨x, hx⟩ : ∃ x, l[k]? = some x := ⟨_, List.getElem?_eq_getElem (by have := HN.out; omega)⟩
      obtain ⟨b, o, rfl, _, p0, p1⟩ := (HR.out.calm HC.out.2 (Nat.le_refl _)).at_ hx
      have hwf := (HR.out.wf x (List.mem_of_getElem? hx)).1
      have HCK := Lib.hid (fun (w2 : World) => (rcheck w2 x.1 hwf).mono fun _ _ h => (⟨h.1, h.2.symm⟩ : _ ∧ _))
      have HIN := Lib.hid (fun (w2 : World) => (rinode w2 x.2).mono fun _ _ h => (⟨h.1, h.2.symm⟩ : _ ∧ _))
      have h0 : (0 : Int) ≤ k := by omega
      have h1 : (k : Int) < n := by omega
      obtain ⟨xs, xi⟩ := x
      cases hnm : nmB xs with
      | false =>
        have HNO := Lib.hid (show decide (RightN l) = false from decide_eq_false (fun h => by
          have := (h.1 k _ (by have := HN.out; omega) hx).1
          unfold itB at this
          rw [hnm] at this
          cases this))
        have hz := chkZ_no hnm
        rw [hz] at HCK
        clear hz
        clear hx hwf hnm
        go_wp2_with fail
        go_quiet (first
          | (go_at_call 17; exact Calls.quiet_of_same (HCK.out _))
          | (go_at_call 39; exact Calls.quiet_of_same (HIN.out _)))
        go_wp2_with fail
        go_ret
        exact ⟨by rw [HRB.out, HNO.out]; rfl, HC.out.2.trans ⟨nq, rfl⟩⟩
      | true =>
        have hz := chkZ_ok hnm
        rw [hz] at HCK
        clear hz
        cases hin : inB xi with
        | false =>
          have HNO := Lib.hid (show decide (RightN l) = false from decide_eq_false (fun h => by
            have := (h.1 k _ (by have := HN.out; omega) hx).1
            unfold itB at this
            rw [hin, Bool.and_false] at this
            cases this))
          rw [hin] at HIN
          clear hx hwf hnm hin
          go_wp2_with fail
          go_quiet (first
            | (go_at_call 17; exact Calls.quiet_of_same (HCK.out _))
            | (go_at_call 39; exact Calls.quiet_of_same (HIN.out _)))
          go_wp2_with fail
          go_ret
          exact ⟨by rw [HRB.out, HNO.out]; rfl, HC.out.2.trans ⟨nq, rfl⟩⟩
        | true =>
          rw [hin] at HIN
          have HIT := Lib.hid (show itB (xs, xi) = true by unfold itB; rw [hnm, hin]; rfl)
          clear hwf hnm hin
          rcases Nat.eq_zero_or_pos k with hk0 | hk0
          · subst hk0
            rw [show o + 0 * 2 = o by omega] at p0 p1
            have HOK := Lib.hid (HC.out.1.next hx HIT.out (fun j y hj => by omega))
            clear hx
            go_wp2_with fail
            go_quiet (first
              | (go_at_call 17; exact Calls.quiet_of_same (HCK.out _))
              | (go_at_call 39; exact Calls.quiet_of_same (HIN.out _)))
            go_wp2_with fail
            go_roundw
            case rel => exact ⟨1, by omega, by go_num, (show _ ∧ _ from ⟨HOK.out, HC.out.2.trans ⟨nq, rfl⟩⟩)⟩
            case measure => simp [intOf]; omega
          · obtain ⟨j, rfl⟩ : ∃ j, k = j + 1 := ⟨k - 1, by omega⟩
            obtain ⟨y, hy⟩ : ∃ y, l[j]? = some y := ⟨_, List.getElem?_eq_getElem (by have := HN.out; omega)⟩
            obtain ⟨_, _, e, _, q0, _⟩ := (HR.out.calm HC.out.2 (Nat.le_refl _)).at_ hy
            cases e
            obtain ⟨ys, yi⟩ := y
            cases hlt2 : ltN (ys, yi) (xs, xi) with
            | false =>
              have HNO := Lib.hid (show decide (RightN l) = false from decide_eq_false (fun h => by
                have := (h.1 (j + 1) _ (by have := HN.out; omega) hx).2 j _ rfl hy
                rw [hlt2] at this
                cases this))
              have hls : Op.bytesLess ys.toList xs.toList = false := hlt2
              clear hx hy hlt2
              go_wp2_with fail
              go_quiet (first
                | (go_at_call 17; exact Calls.quiet_of_same (HCK.out _))
                | (go_at_call 39; exact Calls.quiet_of_same (HIN.out _)))
              go_wp2_with fail
              go_ret
              exact ⟨by rw [HRB.out, HNO.out]; rfl, HC.out.2.trans ⟨nq, rfl⟩⟩
            | true =>
              have HOK := Lib.hid (HC.out.1.next hx HIT.out (fun i z hi hz => by
                obtain rfl : i = j := by omega
                rw [hy] at hz
                cases hz
                exact hlt2))
              have hls : Op.bytesLess ys.toList xs.toList = true := hlt2
              clear hx hy hlt2
              go_wp2_with fail
              go_quiet (first
                | (go_at_call 17; exact Calls.quiet_of_same (HCK.out _))
                | (go_at_call 39; exact Calls.quiet_of_same (HIN.out _)))
              go_wp2_with fail
              go_roundw
              case rel => exact ⟨j + 1 + 1, by omega, by go_num, (show _ ∧ _ from ⟨HOK.out, HC.out.2.trans ⟨nq, rfl⟩⟩)⟩
              case measure => simp [intOf]; omega
    · obtain rfl : k = n := by omega
      have HD := Lib.hid (show rb = decide ((k : Int) ≤ 256) by
        rw [HRB.out, decide_eq_decide]
        have h := HC.out.1
        rw [HN.out] at h ⊢
        exact ⟨fun e => by have := e.2; omega, fun e => ⟨h, by omega⟩⟩)
      go_wp2_with fail
      go_ret
      exact ⟨by rw [HD.out]; simp, HC.out.2⟩
end Go.Proofs.Ytppkmfhlmmlckaa.nm
