/-
  The program's follows: may an entry stand behind these?
-/
import Derived.Test.YtppkmfhlmmlckaaNpC
namespace Go.Proofs.Ytppkmfhlmmlckaa.nm
set_option maxRecDepth 100000
open Go.RowKit Go.Maps
set_option maxRecDepth 100000

/-- May an entry stand behind these? -/
def lastB (l : List Nm) (x : Nm) : Bool := match l[l.length - 1]? with
  | none => true
  | some y => ltN y x
def folB (l : List Nm) (x : Nm) : Bool := decide (l.length < 256) && itB x && lastB l x
theorem folB_iff (l : List Nm) (x : Nm) : folB l x = true ↔ l.length < 256 ∧ itB x = true ∧ lastB l x = true := by
  unfold folB
  simp [and_assoc]
/-- The first k may stand one behind the other. -/
def FolTo (l : List Nm) (k : Nat) : Prop := OkTo l k ∧ k ≤ 256
theorem FolTo.zero (l : List Nm) : FolTo l 0 := ⟨OkTo.zero l, by omega⟩
theorem last_take {l : List Nm} {k : Nat} {x : Nm} (hx : l[k]? = some x) : lastB (l.take k) x = true ↔ ∀ j y, j + 1 = k → l[j]? = some y → ltN y x = true := by
  have hk := (List.getElem?_eq_some_iff.1 hx).1
  have hl : (l.take k).length = k := by rw [List.length_take]; omega
  unfold lastB
  rw [hl]
  rcases k with _ | k
  · simp
  · rw [show k + 1 - 1 = k by omega, List.getElem?_take_of_lt (by omega), List.getElem?_eq_getElem (by omega)]
    constructor
    · intro h j y hj hy
      obtain rfl : j = k := by omega
      rw [List.getElem?_eq_getElem (by omega)] at hy
      cases hy
      exact h
    · intro h
      exact h k _ rfl (List.getElem?_eq_getElem (by omega))
theorem FolTo.next {l : List Nm} {k : Nat} {x : Nm} (h : FolTo l k) (hx : l[k]? = some x) (hf : folB (l.take k) x = true) : FolTo l (k + 1) := by
  have hk := (List.getElem?_eq_some_iff.1 hx).1
  obtain ⟨h1, h2, h3⟩ := (folB_iff _ _).1 hf
  have hl : (l.take k).length = k := by rw [List.length_take]; omega
  exact ⟨h.1.next hx h2 ((last_take hx).1 h3), by omega⟩
theorem FolTo.not {l : List Nm} {k : Nat} {x : Nm} (hx : l[k]? = some x) (hf : folB (l.take k) x = false) : ¬ RightN l := fun hr => by
  have hk := (List.getElem?_eq_some_iff.1 hx).1
  obtain ⟨h1, h2⟩ := hr.1 k x hk hx
  have hl : (l.take k).length = k := by rw [List.length_take]; omega
  have : folB (l.take k) x = true := (folB_iff _ _).2 ⟨by have := hr.2; omega, h1, (last_take hx).2 h2⟩
  rw [hf] at this
  cases this
theorem FolTo.right {l : List Nm} (h : FolTo l l.length) : RightN l := ⟨h.1, h.2⟩

set_option maxHeartbeats 4000000 in
theorem pfollows (w : World) (A : Option Addr) (cap : Nat) (l : List Nm) (x : Nm) (hr : RdN w w.heap.size A l) (hb : l.length ≤ 140737488351232) (hx : x.1.size ≤ maxLen) :
    Calls Try.prog 26 #[.slice A l.length cap, aggN x] w fun e w' => e = .returned (.bool (folB l x)) ∧ Fr (fun _ => False) w w' := by
  obtain ⟨xs, xi⟩ := x
  have HCK := Lib.hid (fun (w2 : World) => pcheck w2 xs hx)
  have HIN := Lib.hid (fun (w2 : World) => pinode w2 xi)
  have hF0 := (Fr.refl (fun _ => False) w).alloc (objX xs xi)
  have HR := Lib.hid ((hr.still hF0 (Nat.le_refl _)).more hF0.size)
  have HF0 := Lib.hid hF0
  obtain ⟨n, hn⟩ : ∃ n, n = l.length := ⟨_, rfl⟩
  rw [← hn] at hb ⊢
  have HN := Lib.hid hn
  have HFO := Lib.hid (show folB l (xs, xi) = (decide (n < 256) && (nmB xs && inB xi) && lastB l (xs, xi)) by rw [hn]; rfl)
  obtain ⟨z, hz⟩ : ∃ z, z = folB l (xs, xi) := ⟨_, rfl⟩
  rw [← hz] at HFO ⊢
  have c0 : (w.alloc (objX xs xi)).cell? ⟨w.heap.size, 0, none⟩ = some (.string xs) := (cellAt (heap_alloc_new w _) 0).trans rfl
  have c1 : (w.alloc (objX xs xi)).cell? ⟨w.heap.size, 1, none⟩ = some (.int .i64 xi) := (cellAt (heap_alloc_new w _) 1).trans rfl
  show Calls Try.prog 26 #[.slice A n cap, .agg #[.string xs, .int .i64 xi]] w _
  clear hr hx hn hF0 hz
  by_cases h1 : (256 : Int) ≤ n
  · have hz : z = false := by rw [HFO.out, decide_eq_false (by omega)]; rfl
    subst hz
    clear HFO
    go_enter Try.func26, Try.ntmps26
    go_wp2_with fail
    go_ret
    exact ⟨rfl, HF0.out⟩
  have h256 : n < 256 := by omega
  cases hnm : nmB xs with
  | false =>
    have hz : z = false := by rw [HFO.out, hnm, Bool.false_and, Bool.and_false, Bool.false_and]
    subst hz
    rw [chkZ_no hnm] at HCK
    clear HFO hnm
    go_enter Try.func26, Try.ntmps26
    go_wp2_with fail
    refine (HCK.out _).mono ?_
    rintro e w' ⟨rfl, rfl⟩
    go_wp2_with fail
    go_ret
    exact ⟨rfl, HF0.out⟩
  | true =>
    rw [chkZ_ok hnm] at HCK
    cases hin : inB xi with
    | false =>
      have hz : z = false := by rw [HFO.out, hin, Bool.and_false, Bool.and_false, Bool.false_and]
      subst hz
      rw [hin] at HIN
      clear HFO hnm hin
      go_enter Try.func26, Try.ntmps26
      go_wp2_with fail
      refine (HCK.out _).mono ?_
      rintro e w' ⟨rfl, rfl⟩
      go_wp2_with fail
      refine (HIN.out _).mono ?_
      rintro e w' ⟨rfl, rfl⟩
      go_wp2_with fail
      go_ret
      exact ⟨rfl, HF0.out⟩
    | true =>
      rw [hin] at HIN
      have hz : z = lastB l (xs, xi) := by rw [HFO.out, hnm, hin, decide_eq_true h256]; rfl
      clear HFO hnm hin
      rcases Nat.eq_zero_or_pos n with h0 | h0
      · have hl0 : l = [] := List.eq_nil_of_length_eq_zero (by rw [← HN.out]; exact h0)
        have hz1 : z = true := by rw [hz, hl0]; rfl
        clear hz hl0
        subst hz1
        subst h0
        clear h1 h256
        go_enter Try.func26, Try.ntmps26
        go_wp2_with fail
        refine (HCK.out _).mono ?_
        rintro e w' ⟨rfl, rfl⟩
        go_wp2_with fail
        refine (HIN.out _).mono ?_
        rintro e w' ⟨rfl, rfl⟩
        go_wp2_with fail
        go_quiet (fail)
        go_wp2_with fail
        go_ret
        exact ⟨rfl, HF0.out.drewN _⟩
      · obtain ⟨j, hj⟩ : ∃ j, n = j + 1 := ⟨n - 1, by omega⟩
        obtain ⟨y, hy⟩ : ∃ y, l[j]? = some y := ⟨_, List.getElem?_eq_getElem (by have := HN.out; omega)⟩
        have hz1 : z = ltN y (xs, xi) := by rw [hz]; unfold lastB; rw [← HN.out, show n - 1 = j by omega, hy]
        obtain ⟨b, o, rfl, _, p0, _⟩ := HR.out.at_ hy
        obtain ⟨ys, yi⟩ := y
        have hz2 : Op.bytesLess ys.toList xs.toList = z := by rw [hz1]; rfl
        have hwj : IntKind.i64.wrap ((n : Int) - 1) = j := by rw [show (n : Int) - 1 = j by omega]; exact IntWalk.i64_in _ (by omega)
        have hj0 : (0 : Int) ≤ j := by omega
        have hj1 : (j : Int) < n := by omega
        have hn0 : ((n : Int) == 0) = false := by rw [beq_eq_false_iff_ne]; omega
        clear hz hz1 hy h0 hj
        go_enter Try.func26, Try.ntmps26
        go_wp2_with fail
        refine (HCK.out _).mono ?_
        rintro e w' ⟨rfl, rfl⟩
        go_wp2_with fail
        refine (HIN.out _).mono ?_
        rintro e w' ⟨rfl, rfl⟩
        go_wp2_with fail
        go_quiet (fail)
        go_wp2_with fail
        go_ret
        exact ⟨rfl, HF0.out.drewN _⟩
end Go.Proofs.Ytppkmfhlmmlckaa.nm
