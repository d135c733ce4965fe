/-
  slices.IndexFunc and ContainsFunc at numbers; New that refuses.
-/
import Derived.Test.YtnibbopdjeagoaaCpC
import Derived.Lib.Walk
import Derived.Shelf.Abstract
namespace Go.Proofs.Ytnibbopdjeagoaa.cd
set_option maxRecDepth 100000
open Go.RowKit Go.Maps Go.Proofs.Ytnibbopdjeagoaa.fl
set_option maxRecDepth 100000

/-- Where the first number stands that a function takes. -/
def NoPI (l : List Int) (p : Int → Bool) (k : Nat) : Prop := ∀ j x, j < k → l[j]? = some x → p x = false
theorem NoPI.next {l : List Int} {p : Int → Bool} {k : Nat} {x : Int} (h : NoPI l p k) (hx : l[k]? = some x) (hn : p x = false) : NoPI l p (k + 1) := fun j z hj hz => by
  by_cases e : j = k
  · subst e
    rw [hx] at hz
    cases hz
    exact hn
  · exact h j z (by omega) hz
set_option maxHeartbeats 2000000 in
theorem index_wrong (w : World) (A : Option Addr) (cap : Nat) (l : List Int) (q : Bool) (hq0 : q = l.any isW') (hr : RdI w w.heap.size A l) (hb : l.length ≤ 140737488351232) :
    Calls Try.prog 55 #[.slice A l.length cap, .func (.func 34) #[] #[]] w fun e w' => (∃ z : Int, e = .returned (.int .i64 z) ∧ (0 ≤ z ↔ q = true) ∧ -1 ≤ z ∧ z < 140737488351232) ∧ w = w' := by
  obtain ⟨n, hn⟩ : ∃ n, n = l.length := ⟨_, rfl⟩
  rw [← hn] at hb ⊢
  have HR := Lib.hid hr
  have HN := Lib.hid hn
  have HQ := Lib.hid hq0
  clear hr hn hq0
  go_enter Try.func55, Try.ntmps55
  go_wp2_with fail
  go_loop [5, 8] (fun _ i => ∃ k : Nat, k ≤ n ∧ i = .int .i64 k ∧ Hid (NoPI l isW' k)) (fun _ i => n - (intOf i).toNat)
  case atStart => exact ⟨0, Nat.zero_le _, rfl, (show ∀ _, _ from fun j x h => by omega)⟩
  case round =>
    obtain ⟨k, hk, rfl, HC⟩ := hrel
    by_cases hlt : k < n
    · obtain ⟨x, hx⟩ : ∃ x, l[k]? = some x := ⟨_, List.getElem?_eq_getElem (by have := HN.out; omega)⟩
      obtain ⟨b, o, rfl, hbl, hcell⟩ := HR.out.1 (by rintro rfl; simp at hx)
      have p0 := hcell k x hx
      have HW := Lib.hid (pisWrong w x)
      cases hq : isW' x with
      | true =>
        rw [hq] at HW
        have HE := Lib.hid (show q = true by rw [HQ.out]; exact List.any_eq_true.2 ⟨x, List.mem_of_getElem? hx, hq⟩)
        clear hx hq hbl hcell
        go_wp2_with (first | (go_at_call 34; refine HW.out.mono ?_; rintro e w' ⟨rfl, rfl⟩) | (go_at_fn 34; refine HW.out.mono ?_; rintro e w' ⟨rfl, rfl⟩))
        go_ret
        exact ⟨⟨k, rfl, ⟨fun _ => HE.out, fun _ => by omega⟩, by omega, by omega⟩, rfl⟩
      | false =>
        rw [hq] at HW
        have HE := Lib.hid (HC.out.next hx hq)
        clear hx hq hbl hcell
        go_wp2_with (first | (go_at_call 34; refine HW.out.mono ?_; rintro e w' ⟨rfl, rfl⟩) | (go_at_fn 34; refine HW.out.mono ?_; rintro e w' ⟨rfl, rfl⟩))
        go_round
        case rel => exact ⟨k + 1, by omega, by go_num, HE⟩
        case measure => simp [intOf]; omega
    · obtain rfl : k = n := by omega
      have HE := Lib.hid (show q = false by
        rw [HQ.out, Bool.eq_false_iff]
        intro h
        obtain ⟨x, hx, hp⟩ := List.any_eq_true.1 h
        obtain ⟨j, hj⟩ := List.mem_iff_getElem?.1 hx
        rw [HC.out j x (by rw [HN.out]; exact (List.getElem?_eq_some_iff.1 hj).1) hj] at hp
        cases hp)
      go_wp2_with fail
      go_ret
      exact ⟨⟨-1, rfl, ⟨fun h => by omega, fun h => by rw [HE.out] at h; cases h⟩, by omega, by omega⟩, rfl⟩
set_option maxHeartbeats 1000000 in
theorem contains_wrong (w : World) (A : Option Addr) (cap : Nat) (l : List Int) (q : Bool) (hq0 : q = l.any isW') (hr : RdI w w.heap.size A l) (hb : l.length ≤ 140737488351232) :
    Calls Try.prog 33 #[.slice A l.length cap, .func (.func 34) #[] #[]] w fun e w' => e = .returned (.bool q) ∧ w = w' := by
  have HI := Lib.hid (index_wrong w A cap l q hq0 hr hb)
  obtain ⟨n, hn⟩ : ∃ n, n = l.length := ⟨_, rfl⟩
  rw [← hn] at HI ⊢
  clear hr hn hb hq0
  go_enter Try.func33, Try.ntmps33
  go_wp2_with (go_at_call 55; refine HI.out.mono ?_; rintro e w' ⟨⟨z, rfl, hz, _, _⟩, rfl⟩; have HZ := Lib.hid (show decide (0 ≤ z) = q from (by cases q with
      | true => exact decide_eq_true (hz.2 rfl)
      | false => exact decide_eq_false (fun h => by cases hz.1 h))); clear hz)
  go_ret
  exact ⟨by rw [← HZ.out]; rfl, rfl⟩
theorem any_wrong (l : List Int) : l.any isW' = !inB l := by
  unfold inB
  induction l with
  | nil => rfl
  | cons x l ih =>
    rw [List.any_cons, List.all_cons, ih, Bool.not_and]
    congr 1
    unfold isW' isC
    by_cases h0 : x = 0
    · subst h0; rfl
    · have : (x != 0) = true := bne_iff_ne.2 h0
      rw [this, Bool.true_and]
      by_cases h1 : 1 ≤ x
      · rw [decide_eq_true h1, decide_eq_true (by omega : 0 ≤ x)]
      · rw [decide_eq_false h1, decide_eq_false (by omega : ¬ 0 ≤ x)]
set_option maxHeartbeats 2000000 in
theorem pnew_no (w : World) (A : Option Addr) (cap : Nat) (l : List Int) (hr : RdI w w.heap.size A l) (hb : l.length ≤ 140737488351232) (h : okB l = false) :
    Calls Try.prog 10 #[.slice A l.length cap] w fun e w' => e = .returned (.tuple #[.pointer none, .int .i64 100]) ∧ Fr (fun _ => False) w w' := by
  have HC := Lib.hid (contains_wrong w A cap l _ rfl hr hb)
  rw [any_wrong] at HC
  have HN := Lib.hid (pcount w A cap l hr hb)
  have HM := Lib.hid (fun wx => pmayBe wx l hb)
  have HL := Lib.hid (cntL_length l)
  have HK := Lib.hid (cntL_cells l)
  by_cases h1 : l.length ≤ 288
  · cases h2 : inB l with
    | false =>
      rw [h2] at HC
      obtain ⟨n, hn⟩ : ∃ n, n = l.length := ⟨_, rfl⟩
      rw [← hn] at HC h1 ⊢
      clear hn HN HM hr h h2 hb
      go_enter Try.func10, Try.ntmps10
      go_wp2_with (go_at_call 33; refine HC.out.mono ?_; rintro e w' ⟨rfl, rfl⟩)
      go_ret2
      exact ⟨rfl, Fr.refl _ _⟩
    | true =>
      rw [h2] at HC
      have hm : mayI l = false := by rw [may_ok h1 h2]; exact h
      rw [hm] at HM
      obtain ⟨n, hn⟩ : ∃ n, n = l.length := ⟨_, rfl⟩
      rw [← hn] at HC HN h1 ⊢
      clear hn hr h h2 hb hm
      go_enter Try.func10, Try.ntmps10
      go_wp2_with (first
        | (go_at_call 33; refine HC.out.mono ?_; rintro e w' ⟨rfl, rfl⟩)
        | (go_at_call 35; refine HN.out.mono ?_; rintro e w1 ⟨rfl, hF1⟩; have HF1 := Lib.hid hF1; have HA1 := Lib.hid (heap_alloc_new w1 (.cells (is no16).toArray 57)); clear hF1)
        | ((with_reducible refine wpList_allocCn ?_ ?_ ?_); (exact rfl); (exact rfl))
        | ((with_reducible refine wpList_storeA infoCn ?_ (.tmp 4) (.tmp 17) ?_ w1.heap.size (is (cntL l)) (is no16) HK.out no16_cells (is_one _) ?_ ?_ HA1.out ?_); (exact rfl); (exact rfl); (exact rfl); (exact rfl); intro w3 h3 hF3 hs3; have H3 := Lib.hid h3; have HF3 := Lib.hid ((HF1.out.alloc _).trans (hF3.mono (S := fun i => w1.heap.size ≤ i) (fun i _ e => by omega)) (S := fun _ => False) (fun i hi e => absurd hi (by have := HF1.out.size; omega))); clear h3 hF3 hs3)
        | ((with_reducible refine wpList_loadCn ?_ (.tmp 4) ?_ w1.heap.size (cntL l) HL.out ?_ H3.out ?_); (exact rfl); (exact rfl); (exact rfl))
        | (go_at_call 36; refine (HM.out _).mono ?_; rintro e w4 ⟨rfl, hF4⟩; have HF4 := Lib.hid (HF3.out.trans hF4 (fun _ _ e => e)); clear hF4))
      go_ret2
      exact ⟨rfl, HF4.out⟩
  · obtain ⟨n, hn⟩ : ∃ n, n = l.length := ⟨_, rfl⟩
    rw [← hn] at h1 hb ⊢
    clear hn HC HN HM hr h
    have h2 : (288 : Int) < n := by omega
    go_enter Try.func10, Try.ntmps10
    go_wp2_with fail
    go_ret2
    exact ⟨rfl, Fr.refl _ _⟩
end Go.Proofs.Ytnibbopdjeagoaa.cd
