/-
  The program's counts: count, all, left, reach, mayBe.
-/
import Derived.Test.YtnibbopdjeagoaaCpA
namespace Go.Proofs.Ytnibbopdjeagoaa.cd
set_option maxRecDepth 100000
open Go.RowKit Go.Maps Go.Proofs.Ytnibbopdjeagoaa.fl
set_option maxRecDepth 100000

def isC (x : Int) : Bool := decide (1 ≤ x) && decide (x ≤ 15)
set_option maxHeartbeats 1000000 in
theorem pisCode (w : World) (x : Int) : Calls Try.prog 56 #[.int .i64 x] w fun e w' => e = .returned (.bool (isC x)) ∧ w = w' := by
  have HV := Lib.hid (show isC x = (decide (1 ≤ x) && decide (x ≤ 15)) from rfl)
  by_cases h1 : 1 ≤ x
  · rw [decide_eq_true h1, Bool.true_and] at HV
    go_enter Try.func56, Try.ntmps56
    go_wp2_with fail
    go_ret
    exact ⟨by rw [HV.out]; rfl, rfl⟩
  · rw [decide_eq_false h1, Bool.false_and] at HV
    go_enter Try.func56, Try.ntmps56
    go_wp2_with fail
    go_ret
    exact ⟨by rw [HV.out]; rfl, rfl⟩
def isW' (x : Int) : Bool := (x != 0) && !isC x
set_option maxHeartbeats 1000000 in
theorem pisWrong (w : World) (x : Int) : Calls Try.prog 34 #[.int .i64 x] w fun e w' => e = .returned (.bool (isW' x)) ∧ w = w' := by
  have HC := Lib.hid (pisCode w x)
  by_cases h1 : x = 0
  · have HV := Lib.hid (show isW' x = false by unfold isW'; subst h1; rfl)
    rw [HV.out]
    subst h1
    go_enter Try.func34, Try.ntmps34
    go_wp2_with (go_at_call 56; refine HC.out.mono ?_; rintro e w' ⟨rfl, rfl⟩)
    go_ret
    exact ⟨rfl, rfl⟩
  · have hne : (x != 0) = true := bne_iff_ne.2 h1
    have HV := Lib.hid (show isW' x = !isC x by unfold isW'; rw [hne]; rfl)
    rw [HV.out]
    obtain ⟨c, hc⟩ : ∃ c, c = isC x := ⟨_, rfl⟩
    rw [← hc] at HC ⊢
    clear hc
    go_enter Try.func34, Try.ntmps34
    go_wp2_with (go_at_call 56; refine HC.out.mono ?_; rintro e w' ⟨rfl, rfl⟩)
    go_ret
    exact ⟨rfl, rfl⟩
theorem cntL_cells (l : List Int) : (is (cntL l)).length = 16 := by rw [is_length, cntL_length]
theorem no16_cells : (is no16).length = 16 := by rw [is_length]; rfl
/-- What lies there while codes are counted. -/
structure Cnt (w : World) (l : List Int) (k : Nat) (wr : World) : Prop where
  res : wr.heap[w.heap.size]? = some (.cells (is no16).toArray 57 (0, 0))
  var : wr.heap[w.heap.size + 1]? = some (.cells (is (cntL (l.take k))).toArray 57 (0, 0))
  fr : Fr (fun _ => False) w wr
theorem Cnt.start (w : World) (l : List Int) : Cnt w l 0 ((w.alloc (.cells (is no16).toArray 57)).alloc (.cells (is no16).toArray 57)) :=
  ⟨heap_alloc2_old _ _ _, by rw [heap_alloc2_new, List.take_zero, cntL_nil], ((Fr.refl _ w).alloc _).alloc _⟩
theorem Cnt.skip {w wr : World} {l : List Int} {k : Nat} {x : Int} (h : Cnt w l k wr) (hx : l[k]? = some x) (hc : isC x = false) : Cnt w l (k + 1) wr := by
  refine ⟨h.res, ?_, h.fr⟩
  rw [h.var, List.take_add_one, hx]
  show _ = some (Obj.cells (is (cntL (l.take k ++ [x]))).toArray _ _)
  rw [cntL_same]
  rintro ⟨h1, h2⟩
  unfold isC at hc
  rw [decide_eq_true h1, decide_eq_true h2] at hc
  cases hc
theorem Cnt.at_ {w wr : World} {l : List Int} {k m : Nat} (h : Cnt w l k wr) (hx : l[k]? = some (m : Int)) (h1 : 1 ≤ m) (h2 : m ≤ 15) : ∃ c : Nat, c ≤ k ∧ wr.cell? ⟨w.heap.size + 1, m, none⟩ = some (.int .i64 (c : Int)) ∧ wr.frozen? ⟨w.heap.size + 1, m, none⟩ = false ∧ Hid (Cnt w l (k + 1) (wr.setCell ⟨w.heap.size + 1, m, none⟩ (.int .i64 ((c : Int) + 1)))) := by
  refine ⟨cn (l.take k) m, ?_, ?_, freeAt h.var m, ?_, ?_, ?_⟩
  · have := cn_le (l.take k) m
    rw [List.length_take] at this
    omega
  · rw [cellAt h.var, List.getElem?_toArray, is_get, cntL_get _ (by omega)]
    rfl
  · rw [Below.heap_setCell _ _ _ _ (by simp)]
    exact h.res
  · rw [heap_setCell_same _ _ _ _ _ _ h.var, List.take_add_one, hx]
    show _ = some (Obj.cells (is (cntL (l.take k ++ [(m : Int)]))).toArray _ _)
    rw [cntL_snoc h1 h2, ← is_set]
    simp
  · exact h.fr.setCell (p := ⟨w.heap.size + 1, m, none⟩) (Or.inr (by simp)) _
set_option maxHeartbeats 4000000 in
theorem pcount (w : World) (A : Option Addr) (cap : Nat) (l : List Int) (hr : RdI w w.heap.size A l) (hb : l.length ≤ 140737488351232) :
    Calls Try.prog 35 #[.slice A l.length cap] w fun e w' => e = .returned (cnV (cntL l)) ∧ Fr (fun _ => False) w w' := by
  obtain ⟨n, hn⟩ : ∃ n, n = l.length := ⟨_, rfl⟩
  rw [← hn] at hb ⊢
  have HR := Lib.hid hr
  have HN := Lib.hid hn
  have HS := Lib.hid (Cnt.start w l)
  clear hr hn
  go_enter Try.func35, Try.ntmps35
  go_wp2_with ((with_reducible refine wpList_allocCn ?_ ?_ ?_); (exact rfl); (exact rfl))
  go_loopw [5, 8] (fun _ i wr => ∃ k : Nat, k ≤ n ∧ i = .int .i64 k ∧ Hid (Cnt w l k wr)) (fun _ i _ => n - (intOf i).toNat)
  case atStart => exact ⟨0, Nat.zero_le _, rfl, HS⟩
  case round =>
    obtain ⟨k, hk, rfl, HC⟩ := hrel
    by_cases hlt : k < n
    · obtain ⟨x, hx⟩ : ∃ x, l[k]? = some x := ⟨_, List.getElem?_eq_getElem (by have := HN.out; omega)⟩
      obtain ⟨b, o, rfl, hbl, hcell⟩ := HR.out.1 (by rintro rfl; simp at hx)
      have p0 := (World.cell?_of_block (w := w) (w' := wr) (a := ⟨b, o + k, none⟩) (HC.out.fr.block b hbl id)).trans (hcell k x hx)
      have HI := Lib.hid (pisCode wr x)
      cases hq : isC x with
      | true =>
        rw [hq] at HI
        obtain ⟨m, rfl, hm1, hm2⟩ : ∃ m : Nat, x = (m : Int) ∧ 1 ≤ m ∧ m ≤ 15 := by
          unfold isC at hq
          simp at hq
          exact ⟨x.toNat, by omega, by omega, by omega⟩
        obtain ⟨c, hc, c0, f0, HNX⟩ := HC.out.at_ hx hm1 hm2
        clear hx hq hbl hcell
        go_wp2_with (go_at_call 56; refine HI.out.mono ?_; rintro e w' ⟨rfl, rfl⟩)
        go_roundw
        case rel => exact ⟨k + 1, by omega, by go_num, HNX⟩
        case measure => simp [intOf]; omega
      | false =>
        rw [hq] at HI
        have HNX := Lib.hid (HC.out.skip hx hq)
        clear hx hq hbl hcell
        go_wp2_with (go_at_call 56; refine HI.out.mono ?_; rintro e w' ⟨rfl, rfl⟩)
        go_roundw
        case rel => exact ⟨k + 1, by omega, by go_num, HNX⟩
        case measure => simp [intOf]; omega
    · obtain rfl : k = n := by omega
      have HV := Lib.hid (show wr.heap[w.heap.size + 1]? = some (.cells (is (cntL l)).toArray 57 (0, 0)) by have := HC.out.var; rwa [HN.out, List.take_length] at this)
      go_wp2_with (first
        | ((with_reducible refine wpList_loadCn ?_ (.tmp 3) ?_ (w.heap.size + 1) (cntL l) (cntL_length l) ?_ HV.out ?_); (exact rfl); (exact rfl); (exact rfl))
        | ((with_reducible refine wpList_storeA infoCn ?_ (.tmp 2) (.tmp 20) ?_ w.heap.size (is (cntL l)) (is no16) (cntL_cells l) no16_cells (is_one _) ?_ ?_ HC.out.res ?_); (exact rfl); (exact rfl); (exact rfl); (exact rfl); intro w3 h3 hF3 hs3; have H3 := Lib.hid h3; have HF3 := Lib.hid hF3; clear h3 hF3 hs3))
      try go_frame
      exact bodyPost_ret (v := cnV (cntL l)) (results_Cn rfl _ _ w.heap.size (cntL l) (cntL_length l) rfl H3.out) rfl ⟨rfl, (HC.out.fr.trans (HF3.out.mono (S := fun i => w.heap.size ≤ i) (fun i _ e => by omega)) (fun _ hi e => absurd hi (by omega)))⟩
theorem sh_le (l : List Int) : ∀ n, shN l n ≤ l.length
  | n => by
    induction l with
    | nil => rw [sh_nil]; exact Nat.le_refl _
    | cons x l ih =>
      rw [sh_cons, List.length_cons]
      split <;> omega
theorem box_fr {w : World} {o : Obj} : Fr (fun _ => False) w (w.alloc o) := (Fr.refl _ w).alloc _
set_option maxHeartbeats 2000000 in
theorem pall (w : World) (l : List Int) (hb : l.length ≤ 140737488351232) :
    Calls Try.prog 38 #[cnV (cntL l)] w fun e w' => e = .returned (.int .i64 (shN l 16 : Nat)) ∧ Fr (fun _ => False) w w' := by
  have HB := Lib.hid (heap_alloc_new w (.cells (is (cntL l)).toArray 57))
  have HF := Lib.hid (box_fr (w := w) (o := .cells (is (cntL l)).toArray 57))
  have HC := Lib.hid (cntL_length l)
  obtain ⟨z, hz⟩ : ∃ z, z = shN l 16 := ⟨_, rfl⟩
  have HZ := Lib.hid hz
  rw [← hz]
  clear hz
  go_enter Try.func38, Try.ntmps38
  go_wp2_with (first
    | ((with_reducible refine wpList_boxCn ?_ (.tmp 0) ?_ (cntL l) ?_ ?_); (exact rfl); (exact rfl); (exact rfl))
    | ((with_reducible refine wpList_loadCn ?_ (.tmp 1) ?_ w.heap.size (cntL l) HC.out ?_ HB.out ?_); (exact rfl); (exact rfl); (exact rfl)))
  go_loop [3, 5, 7] (fun s _ i => ∃ k c : Nat, k ≤ 16 ∧ s = .int .i64 c ∧ i = .int .i64 k ∧ Hid (c = shN l k)) (fun _ _ i => 16 - (intOf i).toNat)
  case atStart => exact ⟨0, 0, by omega, rfl, rfl, (show _ = _ from rfl)⟩
  case round =>
    obtain ⟨k, c, hk, rfl, rfl, HS⟩ := hrel
    by_cases hlt : k < 16
    · have HG := Lib.hid (cntL_get l hlt)
      obtain ⟨d, hd⟩ : ∃ d, d = cn l k := ⟨_, rfl⟩
      have HN := Lib.hid (show c + d = shN l (k + 1) by rw [shN, HS.out, hd])
      have hle : c + d ≤ 140737488351232 := by rw [HN.out]; exact Nat.le_trans (sh_le l (k + 1)) hb
      rw [← hd] at HG
      clear hd
      go_wp2_with ((with_reducible refine wpList_indexCn ?_ (.tmp 6) (.tmp 7) ?_ (cntL l) HC.out k (d : Int) HG.out ?_ ?_ ?_); (exact rfl); (exact rfl); (exact rfl); (exact rfl))
      go_round
      case rel => exact ⟨k + 1, c + d, by omega, by go_num, by go_num, HN⟩
      case measure => simp [intOf]; omega
    · obtain rfl : k = 16 := by omega
      go_wp2_with fail
      go_ret
      exact ⟨by rw [HZ.out, ← HS.out]; rfl, HF.out⟩
set_option maxHeartbeats 2000000 in
theorem pleft (w : World) (l : List Int) (hb : l.length ≤ 140737488351232) :
    Calls Try.prog 40 #[cnV (cntL l)] w fun e w' => e = .returned (.int .i64 (roomI l)) ∧ Fr (fun _ => False) w w' := by
  have HB := Lib.hid (heap_alloc_new w (.cells (is (cntL l)).toArray 57))
  have HF := Lib.hid (box_fr (w := w) (o := .cells (is (cntL l)).toArray 57))
  have HC := Lib.hid (cntL_length l)
  obtain ⟨z, hz⟩ : ∃ z, z = roomI l := ⟨_, rfl⟩
  have HZ := Lib.hid hz
  rw [← hz]
  clear hz
  go_enter Try.func40, Try.ntmps40
  go_wp2_with (first
    | ((with_reducible refine wpList_boxCn ?_ (.tmp 0) ?_ (cntL l) ?_ ?_); (exact rfl); (exact rfl); (exact rfl))
    | ((with_reducible refine wpList_loadCn ?_ (.tmp 1) ?_ w.heap.size (cntL l) HC.out ?_ HB.out ?_); (exact rfl); (exact rfl); (exact rfl)))
  go_loop [3, 4, 5, 7] (fun s _ _ i => ∃ (k : Nat) (c : Int), k ≤ 16 ∧ s = .int .i64 c ∧ i = .int .i64 k ∧ Hid (c = leftI l k)) (fun _ _ _ i => 16 - (intOf i).toNat)
  case atStart => exact ⟨0, 32768, by omega, rfl, rfl, (show _ = _ from rfl)⟩
  case round =>
    obtain ⟨k, c, hk, rfl, rfl, HS⟩ := hrel
    by_cases hlt : k < 16
    · have HG := Lib.hid (cntL_get l hlt)
      obtain ⟨d, hd⟩ : ∃ d, d = cn l k := ⟨_, rfl⟩
      obtain ⟨m, hm⟩ : ∃ m : Nat, m = 15 - k := ⟨_, rfl⟩
      have HN := Lib.hid (show c - (d : Int) * 2 ^ m = leftI l (k + 1) by rw [leftI, HS.out, hd, hm])
      have h1 := left_in k l
      have h2 := left_in (k + 1) l
      rw [← HN.out] at h2
      rw [← HS.out] at h1
      have hm2 : (15 : Int) - (k : Int) = (m : Int) := by omega
      rw [← hd] at HG
      clear hd hm
      go_wp2_with ((with_reducible refine wpList_indexCn ?_ (.tmp 6) (.tmp 7) ?_ (cntL l) HC.out k (d : Int) HG.out ?_ ?_ ?_); (exact rfl); (exact rfl); (exact rfl); (exact rfl))
      go_round
      case rel => exact ⟨k + 1, c - (d : Int) * 2 ^ m, by omega, by go_num, by go_num, HN⟩
      case measure => simp [intOf]; omega
    · obtain rfl : k = 16 := by omega
      go_wp2_with fail
      go_ret
      exact ⟨by rw [HZ.out, ← left_all, ← HS.out]; rfl, HF.out⟩
end Go.Proofs.Ytnibbopdjeagoaa.cd
