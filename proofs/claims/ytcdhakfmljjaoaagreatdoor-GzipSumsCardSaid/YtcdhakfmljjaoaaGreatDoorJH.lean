/-
  Texts that belong together, joined: CpK CpL.
-/
import Derived.Test.YtcdhakfmljjaoaaGreatDoorJG
import Derived.Laws.CopyOwn
import Derived.Lib.AppendZeros

/-
  slices.Repeat of one number; Grow and Concat at numbers.
-/



namespace Go.Proofs.YtcdhakfmljjaoaaGreatDoor.cd
set_option maxRecDepth 100000
open Go.RowKit Go.Maps Go.Proofs.YtcdhakfmljjaoaaGreatDoor.fl
set_option maxRecDepth 100000

set_option maxHeartbeats 1000000 in
theorem pmul64_144 (w : World) : Calls Tryz.prog 107 #[.int .u64 1, .int .u64 144] w fun e w' => e = .returned (.tuple #[.int .u64 0, .int .u64 144]) ∧ w = w' := by
  go_enter Tryz.func107, Tryz.ntmps107
  go_wp2_with fail
  go_ret2
  exact ⟨rfl, rfl⟩
set_option maxHeartbeats 1000000 in
theorem pmul_144 (w : World) : Calls Tryz.prog 94 #[.int .u64 1, .int .u64 144] w fun e w' => e = .returned (.tuple #[.int .u64 0, .int .u64 144]) ∧ w = w' := by
  have H := Lib.hid (pmul64_144 w)
  go_enter Tryz.func94, Tryz.ntmps94
  go_wp2_with (go_at_call 107; refine H.out.mono ?_; rintro e w' ⟨rfl, rfl⟩)
  go_ret2
  exact ⟨rfl, rfl⟩
set_option maxHeartbeats 1000000 in
theorem pmul64_112 (w : World) : Calls Tryz.prog 107 #[.int .u64 1, .int .u64 112] w fun e w' => e = .returned (.tuple #[.int .u64 0, .int .u64 112]) ∧ w = w' := by
  go_enter Tryz.func107, Tryz.ntmps107
  go_wp2_with fail
  go_ret2
  exact ⟨rfl, rfl⟩
set_option maxHeartbeats 1000000 in
theorem pmul_112 (w : World) : Calls Tryz.prog 94 #[.int .u64 1, .int .u64 112] w fun e w' => e = .returned (.tuple #[.int .u64 0, .int .u64 112]) ∧ w = w' := by
  have H := Lib.hid (pmul64_112 w)
  go_enter Tryz.func94, Tryz.ntmps94
  go_wp2_with (go_at_call 107; refine H.out.mono ?_; rintro e w' ⟨rfl, rfl⟩)
  go_ret2
  exact ⟨rfl, rfl⟩
set_option maxHeartbeats 1000000 in
theorem pmul64_24 (w : World) : Calls Tryz.prog 107 #[.int .u64 1, .int .u64 24] w fun e w' => e = .returned (.tuple #[.int .u64 0, .int .u64 24]) ∧ w = w' := by
  go_enter Tryz.func107, Tryz.ntmps107
  go_wp2_with fail
  go_ret2
  exact ⟨rfl, rfl⟩
set_option maxHeartbeats 1000000 in
theorem pmul_24 (w : World) : Calls Tryz.prog 94 #[.int .u64 1, .int .u64 24] w fun e w' => e = .returned (.tuple #[.int .u64 0, .int .u64 24]) ∧ w = w' := by
  have H := Lib.hid (pmul64_24 w)
  go_enter Tryz.func94, Tryz.ntmps94
  go_wp2_with (go_at_call 107; refine H.out.mono ?_; rintro e w' ⟨rfl, rfl⟩)
  go_ret2
  exact ⟨rfl, rfl⟩
set_option maxHeartbeats 1000000 in
theorem pmul64_8 (w : World) : Calls Tryz.prog 107 #[.int .u64 1, .int .u64 8] w fun e w' => e = .returned (.tuple #[.int .u64 0, .int .u64 8]) ∧ w = w' := by
  go_enter Tryz.func107, Tryz.ntmps107
  go_wp2_with fail
  go_ret2
  exact ⟨rfl, rfl⟩
set_option maxHeartbeats 1000000 in
theorem pmul_8 (w : World) : Calls Tryz.prog 94 #[.int .u64 1, .int .u64 8] w fun e w' => e = .returned (.tuple #[.int .u64 0, .int .u64 8]) ∧ w = w' := by
  have H := Lib.hid (pmul64_8 w)
  go_enter Tryz.func94, Tryz.ntmps94
  go_wp2_with (go_at_call 107; refine H.out.mono ?_; rintro e w' ⟨rfl, rfl⟩)
  go_ret2
  exact ⟨rfl, rfl⟩
theorem infoI1 : (Tryz.prog.info? 3).map (·.size) = some 1 := by kernel_rfl
/-- A row of m times v, and noughts up to n. -/
def rpL (v : Int) (n m : Nat) : List Int := List.replicate m v ++ List.replicate (n - m) 0
theorem rpL_length {v : Int} {n m : Nat} (h : m ≤ n) : (rpL v n m).length = n := by unfold rpL; simp; omega
theorem rpL_get {v : Int} {n m j : Nat} (h : j < m) : (rpL v n m)[j]? = some v := by
  unfold rpL
  rw [List.getElem?_append_left (by simpa using h), List.getElem?_replicate, if_pos h]
theorem rp_splice {v : Int} {n m k : Nat} (hm : m + k ≤ n) : splice (is (rpL v n m)) m (is (List.replicate k v)) = is (rpL v n (m + k)) := by
  unfold splice rpL
  rw [is_length, List.length_replicate]
  unfold is
  rw [← List.map_take, ← List.map_drop, ← List.map_append, ← List.map_append]
  congr 1
  rw [List.take_append_of_le_length (by simp), List.take_of_length_le (by simp), List.drop_append, List.drop_of_length_le (by simp), List.nil_append, List.drop_replicate, ← List.append_assoc, List.replicate_append_replicate, List.length_replicate]
  congr 2
  omega
/-- A new row of n times v. -/
def NewR (w : World) (v : Int) (n : Nat) (e : Ending) (w' : World) : Prop := ∃ g, e = .returned (slA g n) ∧ w'.heap[g]? = some (.cells (is (List.replicate n v)).toArray 3 (0, 0)) ∧ w.heap.size ≤ g ∧ Fr (fun _ => False) w w'
set_option maxHeartbeats 400000 in
theorem prepeat (w : World) (g : Nat) (v : Int) (n : Nat) (hn1 : 1 ≤ n) (hn : n ≤ 288) (hg : w.heap[g]? = some (.cells #[.int .i64 v] 3 (0, 0)))
    (hmul : ∀ wx, Calls Tryz.prog 94 #[.int .u64 1, .int .u64 (n : Int)] wx fun e w' => e = .returned (.tuple #[.int .u64 0, .int .u64 (n : Int)]) ∧ wx = w') :
    Calls Tryz.prog 74 #[slA g 1, .int .i64 (n : Int)] w (NewR w v n) := by
  have HM := Lib.hid hmul
  have hmk := fun wx : World => mk_syms wx n hn
  have hwr : IntKind.u64.wrap (n : Int) = (n : Int) := by rw [IntKind.wrap_u64]; omega
  have hw1 : IntKind.i64.wrap (n : Int) = (n : Int) := IntWalk.i64_in _ (by omega)
  have HG := Lib.hid hg
  have hlt := lt_of_block hg
  have H0 := Lib.hid (show (w.alloc (.cells (syZ n).toArray 3)).heap[w.heap.size]? = some (.cells (is (rpL v n 0)).toArray 3 (0, 0)) by
    rw [heap_alloc_new]
    unfold rpL
    rfl)
  have HS := Lib.hid (show ∀ j u, ([.int .i64 v] : List Value)[j]? = some u → (w.alloc (.cells (syZ n).toArray 3)).cell? ((⟨g, 0, none⟩ : Addr).add j) = some u from fun j u hu => by
    have h1 : (w.alloc (.cells (syZ n).toArray 3)).heap[g]? = some (.cells #[.int .i64 v] 3 (0, 0)) := (Below.heap_alloc _ _ _ hlt).trans hg
    rw [add_plain, cellAt h1, Nat.zero_add]
    rw [← hu, List.getElem?_toArray])
  have HNN := Lib.hid (show ([.int .i64 v] : List Value).length = Nat.min 1 n by show 1 = min 1 n; omega)
  have HFIT := Lib.hid (show 0 + ([.int .i64 v] : List Value).length ≤ (is (rpL v n 0)).length by rw [is_length, rpL_length (by omega)]; show 0 + 1 ≤ n; omega)
  have HSP := Lib.hid (show splice (is (rpL v n 0)) 0 [.int .i64 v] = is (rpL v n 1) from rp_splice (v := v) (n := n) (m := 0) (k := 1) (by omega))
  have HONE := Lib.hid (show ∀ u ∈ ([.int .i64 v] : List Value), u.oneCell' = true from fun u hu => by rw [List.mem_singleton.1 hu]; rfl)
  clear hmul hg
  go_enter Tryz.func74, Tryz.ntmps74
  go_wp2_with (first
    | (go_at_call 94; refine (HM.out _).mono ?_; rintro e w' ⟨rfl, rfl⟩)
    | ((with_reducible refine wpList_copy_splice ?_ (.tmp 31) (.tmp 32) 66 66 ?_ 3 Tryz.underlying66 infoI1 (some ⟨w.heap.size, 0, none⟩) (some ⟨g, 0, none⟩) n n 1 1 ?_ ?_ w.heap.size 0 (is (rpL v n 0)) 3 H0.out [.int .i64 v] HNN.out ?_ HFIT.out HONE.out w.heap.size _ (Below.refl _ _) (Nat.le_refl _) ?_); (exact rfl); (exact rfl); (exact rfl); (exact rfl); (exact fun _ => ⟨rfl, _, rfl, HS.out⟩); intro w2 hG2 hB2; rw [HSP.out] at hG2; have HG2 : Hid (w2.heap[w.heap.size]? = some (.cells (is (rpL v n 1)).toArray 3 (0, 0))) := hG2; have HB2 := Lib.hid hB2; clear hG2 hB2))
  have HA := Lib.hid (show w2.heap[w.heap.size]? = some (.cells (is (rpL v n 1)).toArray 3 (0, 0)) ∧ Below w.heap.size w w2 from ⟨HG2.out, ((Below.refl _ w).alloc (Nat.le_refl _) _).trans HB2.out⟩)
  clear HG2 HB2 H0 HS HSP HNN HFIT HONE
  go_loopw [8] (fun i wr => ∃ m : Nat, 1 ≤ m ∧ m ≤ n ∧ i = .int .i64 m ∧ Hid (wr.heap[w.heap.size]? = some (.cells (is (rpL v n m)).toArray 3 (0, 0)) ∧ Below w.heap.size w wr)) (fun i _ => n - (intOf i).toNat)
  case atStart => exact ⟨1, Nat.le_refl _, hn1, rfl, HA⟩
  case round =>
    obtain ⟨m, hm1, hmn, rfl, HW⟩ := hrel
    by_cases hlt2 : m < n
    · obtain ⟨k, hk⟩ : ∃ k, k = Nat.min m (n - m) := ⟨_, rfl⟩
      have hk2 : 1 ≤ k ∧ k ≤ m ∧ m + k ≤ n := by
        have : k = min m (n - m) := hk
        omega
      have HWd := Lib.hid (show wr.drew.heap[w.heap.size]? = some (.cells (is (rpL v n m)).toArray 3 (0, 0)) ∧ Below w.heap.size w wr.drew from ⟨HW.out.1, HW.out.2.drew⟩)
      have HSR := Lib.hid (show ∀ j u, (is (List.replicate k v))[j]? = some u → wr.drew.cell? ((⟨w.heap.size, 0, none⟩ : Addr).add j) = some u from fun j u hu => by
        have hj : j < k := by
          have := (List.getElem?_eq_some_iff.1 hu).1
          rw [is_length, List.length_replicate] at this
          exact this
        rw [add_plain, cellAt HWd.out.1, List.getElem?_toArray, Nat.zero_add, is_get, rpL_get (by omega), ← hu, is_get, List.getElem?_replicate, if_pos hj])
      have HNK := Lib.hid (show (is (List.replicate k v)).length = Nat.min m (n - m) by rw [is_length, List.length_replicate, hk])
      have HFK := Lib.hid (show m + (is (List.replicate k v)).length ≤ (is (rpL v n m)).length by rw [is_length, is_length, rpL_length hmn, List.length_replicate]; omega)
      have HSK := Lib.hid (show splice (is (rpL v n m)) m (is (List.replicate k v)) = is (rpL v n (m + k)) from rp_splice hk2.2.2)
      have HLK := Lib.hid (show (is (List.replicate k v)).length = k by rw [is_length, List.length_replicate])
      have hm0 : (0 : Int) ≤ (m : Int) := by omega
      have hmi : (m : Int) ≤ (n : Int) := by omega
      have hml : (m : Int) < (n : Int) := by omega
      have hne : ¬ n = m := by omega
      have hmw : IntKind.i64.wrap ((m : Int) + (k : Int)) = (m : Int) + (k : Int) := IntWalk.i64_in _ (by omega)
      clear hk
      go_wp2_with fail
      go_region_held3 (fun w' => w.heap.size < w'.heap.size ∧ w.heap.size ≤ w'.heap.size)
        (first
          | exact ⟨lt_of_block HWd.out.1, Nat.le_of_lt (lt_of_block HWd.out.1)⟩
          | exact ⟨lt_of_block H4.out.1, Nat.le_of_lt (lt_of_block H4.out.1)⟩)
        (first
          | (refine step_copy_splice rfl (.tmp 41) (.tmp 44) 66 66 rfl 3 Tryz.underlying66 infoI1 (some ⟨w.heap.size, m, none⟩) (some ⟨w.heap.size, 0, none⟩) (n - m) (n - m) m n rfl rfl w.heap.size m (is (rpL v n m)) 3 HWd.out.1 (is (List.replicate k v)) HNK.out (fun _ => ⟨rfl, _, rfl, HSR.out⟩) HFK.out (is_one _) w.heap.size w HWd.out.2 (Nat.le_refl _) ?_; intro w4 hg4 hb4; rw [HSK.out] at hg4; have H4 : Hid (w4.heap[w.heap.size]? = some (.cells (is (rpL v n (m + k))).toArray 3 (0, 0)) ∧ Below w.heap.size w w4) := Lib.hid ⟨hg4.out, hb4⟩; rw [HLK.out]; clear hg4 hb4))
      all_goals
        go_wp2_with fail
        go_roundw
        case rel => exact ⟨m + k, by omega, by omega, by go_num, H4⟩
        case measure => simp [intOf]; omega
    · obtain rfl : m = n := by omega
      go_wp2_with fail
      go_ret
      exact ⟨w.heap.size, rfl, by have := HW.out.1; unfold rpL at this; rwa [Nat.sub_self, List.replicate_zero, List.append_nil] at this, Nat.le_refl _, Fr.ofBelow HW.out.2 (fun i hi _ => hi)⟩
set_option maxHeartbeats 2000000 in
theorem grow_ints (w : World) (n : Nat) (hn : n ≤ 1000) :
    Calls Tryz.prog 105 #[.slice none 0 0, .int .i64 n] w fun e w' => ∃ v, e = .returned v ∧ w'.ownsRow w.heap.size 3 1 v 0 [] ∧ Fr (fun _ => False) w w' := by
  rcases Nat.eq_zero_or_pos n with h0 | h0
  · subst h0
    clear hn
    go_enter Tryz.func105, Tryz.ntmps105
    go_wp2
    go_ret
    exact ⟨_, rfl, ⟨rfl, Or.inl ⟨rfl, rfl⟩⟩, Fr.refl _ _⟩
  · obtain ⟨i0, hi, hz0, hz1, hz2⟩ := info_parts infoI
    have hrz : ∀ ty, (Builtin.append_ #[66, 3] ty #[.slice none 0 0, .int .i64 n]).run Tryz.prog w = .ok (.slice (some ⟨w.heap.size, 0, none⟩) n (grownCap w n 0 3)) (w.drew.alloc (.cells (Builtin.zeroCells (Value.int .i64 0).cells n ++ Builtin.zeroCells (Value.int .i64 0).cells (grownCap w n 0 3 - n)) 3)) := fun ty =>
      Lib.run_append_nil_zeros w 66 3 ty 3 i0 (.int .i64 0) .i64 .i64 Tryz.underlying66 Tryz.underlying3 hi hz0 n h0 (by omega) (by omega) (by rw [hz2]; omega)
    have hGn : n ≤ grownCap w n 0 3 := grownCap_ge w _ _ _
    have hG63 : grownCap w n 0 3 ≤ maxLen := grownCap_le_maxLen w n 0 3 (by unfold maxLen; omega)
    obtain ⟨G, hG⟩ : ∃ G, G = grownCap w n 0 3 := ⟨_, rfl⟩
    rw [← hG] at hrz hGn hG63
    obtain ⟨cur, hcur⟩ : ∃ cur, cur = Builtin.zeroCells (Value.int .i64 0).cells n ++ Builtin.zeroCells (Value.int .i64 0).cells (G - n) := ⟨_, rfl⟩
    have hsz : cur.size = G * 1 := by rw [hcur, Array.size_append, size_zeroCells, size_zeroCells]; show n * 1 + (G - n) * 1 = G * 1; omega
    rw [← hcur] at hrz
    have HO : Hid ((w.drew.alloc (.cells cur 3)).ownsRow w.heap.size 3 1 (.slice (some ⟨w.heap.size, 0, none⟩) 0 G) 0 []) := Lib.hid (World.ownsRow_made w.drew cur G (Nat.le_refl _) hG63 hsz)
    have HF := Lib.hid (((Fr.refl (fun _ => False) w).drew).alloc (.cells cur 3))
    have HR := Lib.hid hrz
    have hG63' : G ≤ 9223372036854775807 := by unfold maxLen at hG63; omega
    clear hi hz0 hz1 hz2 hrz hG hcur hsz hG63
    go_enter Tryz.func105, Tryz.ntmps105
    go_wp2_with (at_builtin; refine Lib.wpList_append_run _ rfl _ _ _ _ rfl _ _ rfl rfl _ _ (HR.out _) ?_)
    go_ret
    exact ⟨_, rfl, HO.out, HF.out⟩

/-- Rows of numbers, each at the head of its block. -/
def catI (P : List (Nat × List Int)) (k : Nat) : List Int := (P.take k).flatMap (·.2)
theorem catI_next {P : List (Nat × List Int)} {k : Nat} {q : Nat × List Int} (h : P[k]? = some q) : catI P (k + 1) = catI P k ++ q.2 := by
  unfold catI
  rw [List.take_add_one, h, List.flatMap_append]
  simp
theorem catI_len {P : List (Nat × List Int)} {k : Nat} : (catI P k).length ≤ (catI P P.length).length := by
  rcases Nat.lt_or_ge k P.length with h | h
  · unfold catI
    rw [List.take_length]
    conv => rhs; rw [← List.take_append_drop k P, List.flatMap_append, List.length_append]
    omega
  · unfold catI
    rw [List.take_of_length_le h, List.take_length]
    exact Nat.le_refl _
structure RowsI (w : World) (g : Nat) (P : List (Nat × List Int)) : Prop where
  cell : ∀ (k : Nat) (q : Nat × List Int), P[k]? = some q → w.cell? ⟨g, k, none⟩ = some (slA q.1 q.2.length)
  block : g < w.heap.size
  rd : ∀ (k : Nat) (q : Nat × List Int), P[k]? = some q → w.heap[q.1]? = some (.cells (is q.2).toArray 3 (0, 0))
theorem RowsI.still {w w' : World} {g : Nat} {P : List (Nat × List Int)} (h : RowsI w g P) (hF : Fr (fun _ => False) w w') : RowsI w' g P :=
  ⟨fun k q hk => (World.cell?_of_block (w := w) (w' := w') (a := ⟨g, k, none⟩) (hF.block g h.block id)).trans (h.cell k q hk), Nat.lt_of_lt_of_le h.block hF.size, fun k q hk => (hF.block _ (lt_of_block (h.rd k q hk)) id).trans (h.rd k q hk)⟩
set_option maxHeartbeats 4000000 in
theorem concat_ints (w : World) (g cap : Nat) (P : List (Nat × List Int)) (hP : RowsI w g P) (hm : P.length ≤ 100) (hl : (catI P P.length).length ≤ 1000) :
    Calls Tryz.prog 93 #[.slice (some ⟨g, 0, none⟩) P.length cap] w (NewL w (catI P P.length)) := by
  obtain ⟨i0, hi, hz0, hz1, hz2⟩ := info_parts infoI
  have HI := Lib.hid (⟨hi, hz0, hz1, hz2⟩ : _ ∧ _ ∧ _ ∧ _)
  obtain ⟨m, hmm⟩ : ∃ m, m = P.length := ⟨_, rfl⟩
  have HL : Hid (∀ k, (catI P k).length ≤ 1000) := Lib.hid fun k => Nat.le_trans catI_len hl
  have HP := Lib.hid hP
  rw [← hmm] at hm hl ⊢
  have HM := Lib.hid hmm
  obtain ⟨L, hL⟩ : ∃ L, L = catI P m := ⟨_, rfl⟩
  have HLL := Lib.hid hL
  rw [← hL]
  clear hi hz0 hz1 hz2 hP hmm hl hL
  go_enter Tryz.func93, Tryz.ntmps93
  go_wp2_with fail
  go_loop [3, 5, 11] (fun s _ i => ∃ k c : Nat, k ≤ m ∧ s = .int .i64 c ∧ i = .int .i64 k ∧ Hid (c = (catI P k).length)) (fun _ _ i => m - (intOf i).toNat)
  case atStart => exact ⟨0, 0, Nat.zero_le _, rfl, rfl, (show _ = _ from rfl)⟩
  case round =>
    obtain ⟨k, c, hk, rfl, rfl, HC⟩ := hrel
    have hc5 : c ≤ 1000 := by rw [HC.out]; exact HL.out k
    by_cases hlt : k < m
    · obtain ⟨q, hq⟩ : ∃ q, P[k]? = some q := ⟨_, List.getElem?_eq_getElem (by have := HM.out; omega)⟩
      have p0 := HP.out.cell k q hq
      have HN := Lib.hid (catI_next hq)
      obtain ⟨gq, lq⟩ := q
      have hN2 := HL.out (k + 1)
      rw [HN.out, List.length_append, ← HC.out] at hN2
      obtain ⟨d, hd⟩ : ∃ d, d = lq.length := ⟨_, rfl⟩
      have p1 : w.cell? ⟨g, k, none⟩ = some (slA gq d) := by rw [p0, hd]
      have hN3 : c + d ≤ 1000 := by rw [hd]; exact hN2
      have HD := Lib.hid (show c + d = (catI P (k + 1)).length by rw [HN.out, List.length_append, ← HC.out, hd])
      clear p0 hq hd hN2
      go_wp2_with fail
      go_round
      case rel => exact ⟨k + 1, c + d, by omega, by go_num, by go_num, HD⟩
      case measure => simp [intOf]; omega
    · obtain rfl : k = m := by omega
      have HG := Lib.hid (fun (wr : World) => grow_ints wr c hc5)
      go_wp2_with fail
      refine (HG.out _).mono ?_
      rintro e w1 ⟨v, rfl, hown, hF⟩
      have HO := Lib.hid (⟨hown, hF⟩ : _ ∧ _)
      clear hown hF HG
      go_wp2_with fail
      go_loopw [6, 8, 27] (fun v _ i wr => ∃ j : Nat, j ≤ k ∧ i = .int .i64 j ∧ Hid (wr.ownsRow w.heap.size 3 1 v (catI P j).length (is (catI P j)) ∧ Fr (fun _ => False) w wr)) (fun _ _ i _ => k - (intOf i).toNat)
      case atStart => exact ⟨0, Nat.zero_le _, rfl, (show _ ∧ _ from HO.out)⟩
      case round =>
        obtain ⟨j, hj, rfl, HW⟩ := hrel
        by_cases hlt2 : j < k
        · obtain ⟨q, hq⟩ : ∃ q, P[j]? = some q := ⟨_, List.getElem?_eq_getElem (by have := HM.out; omega)⟩
          have hPr := HP.out.still HW.out.2
          have p0 := hPr.cell j q hq
          have HN := Lib.hid (catI_next hq)
          have hrq := hPr.rd j q hq
          obtain ⟨gq, lq⟩ := q
          have hN2 := HL.out (j + 1)
          rw [HN.out, List.length_append] at hN2
          obtain ⟨d, hd⟩ : ∃ d, d = lq.length := ⟨_, rfl⟩
          have p1 : wr.cell? ⟨g, j, none⟩ = some (slA gq d) := by rw [p0, hd]
          obtain ⟨cj, hcj⟩ : ∃ cj, cj = (catI P j).length := ⟨_, rfl⟩
          have hN3 : cj + d ≤ 1000 := by rw [hd, hcj]; exact hN2
          have HD := Lib.hid (show cj + d = (catI P (j + 1)).length by rw [HN.out, List.length_append, hcj, hd])
          have HCJ := Lib.hid hcj
          have HDD := Lib.hid hd
          have HS := Lib.hid (show ∀ t u, (is lq)[t]? = some u → wr.cell? ((⟨gq, 0, none⟩ : Addr).add t) = some u from fun t u hu => by
            rw [add_plain, cellAt hrq, List.getElem?_toArray, Nat.zero_add]
            exact hu)
          clear p0 hq hd hN2 hcj hPr hrq
          go_wp2_with (at_builtin; refine wpList_append_own _ rfl (.tmp 31) (.tmp 32) 66 rfl w.heap.size 3 i0 (.int .i64 0) 1 8 Tryz.underlying66 HI.out.1 HI.out.2.1 HI.out.2.2.1 HI.out.2.2.2 rfl (by omega) _ (catI P j).length _ rfl HW.out.1 ⟨gq, 0, none⟩ d d (is lq) rfl (by rw [is_length, ← HDD.out, Nat.mul_one]) HS.out (is_one lq) (by rw [← HCJ.out]; unfold maxLen; omega) (by rw [← HCJ.out]; omega) HW.out.2.size ?_; intro v' w2 hown2 hgrow2 _)
          have H2 := Lib.hid (show w2.ownsRow w.heap.size 3 1 v' (catI P (j + 1)).length (is (catI P (j + 1))) ∧ Fr (fun _ => False) w w2 from ⟨by rw [HN.out, is_append, List.length_append, ← HDD.out]; exact hown2, HW.out.2.grown hgrow2 (fun q e => own_geI HW.out.1 e)⟩)
          clear hown2 hgrow2
          go_wp2
          go_roundw
          case rel => exact ⟨j + 1, by omega, by go_num, H2⟩
          case measure => simp [intOf]; omega
        · obtain rfl : j = k := by omega
          go_wp2_with fail
          go_ret
          obtain ⟨A, cap', rfl, ho⟩ := OwnI.shape rfl rfl HW.out.1
          rw [HLL.out]
          exact ⟨A, cap', rfl, ho, HW.out.2⟩
end Go.Proofs.YtcdhakfmljjaoaaGreatDoor.cd

/-
  The program's Fixed.
-/
namespace Go.Proofs.YtcdhakfmljjaoaaGreatDoor.cd
set_option maxRecDepth 100000
open Go.RowKit Go.Maps Go.Proofs.YtcdhakfmljjaoaaGreatDoor.fl
set_option maxRecDepth 100000

abbrev fixP (g1 g2 g3 g4 : Nat) : List (Nat × List Int) := [(g1, List.replicate 144 8), (g2, List.replicate 112 9), (g3, List.replicate 24 7), (g4, List.replicate 8 8)]
theorem fix_cat (g1 g2 g3 g4 : Nat) : catI (fixP g1 g2 g3 g4) 4 = fixI := by
  kernel_rfl
theorem fix_rows {w w1 w2 w3 w4 : World} {g1 g2 g3 g4 : Nat} (_ : Fr (fun _ => False) w w1) (h2 : Fr (fun _ => False) w1 w2) (h3 : Fr (fun _ => False) w2 w3) (h4 : Fr (fun _ => False) w3 w4)
    (r1 : w1.heap[g1]? = some (.cells (is (List.replicate 144 8)).toArray 3 (0, 0))) (r2 : w2.heap[g2]? = some (.cells (is (List.replicate 112 9)).toArray 3 (0, 0))) (r3 : w3.heap[g3]? = some (.cells (is (List.replicate 24 7)).toArray 3 (0, 0))) (r4 : w4.heap[g4]? = some (.cells (is (List.replicate 8 8)).toArray 3 (0, 0))) :
    RowsI (w4.alloc (.cells #[slA g1 144, slA g2 112, slA g3 24, slA g4 8] 66)) w4.heap.size (fixP g1 g2 g3 g4) := by
  have hA := (Fr.refl (fun _ => False) w4).alloc (.cells #[slA g1 144, slA g2 112, slA g3 24, slA g4 8] 66)
  have e3 := h4.trans hA (fun _ _ e => e)
  have e2 := h3.trans e3 (fun _ _ e => e)
  have e1 := h2.trans e2 (fun _ _ e => e)
  refine ⟨fun k q hk => ?_, by simp, fun k q hk => ?_⟩
  · rw [cellAt (heap_alloc_new _ _)]
    rcases k with _ | _ | _ | _ | k
    · cases hk; rfl
    · cases hk; rfl
    · cases hk; rfl
    · cases hk; rfl
    · simp at hk
  · rcases k with _ | _ | _ | _ | k
    · cases hk; exact (e1.block _ (lt_of_block r1) id).trans r1
    · cases hk; exact (e2.block _ (lt_of_block r2) id).trans r2
    · cases hk; exact (e3.block _ (lt_of_block r3) id).trans r3
    · cases hk; exact (hA.block _ (lt_of_block r4) id).trans r4
    · simp at hk
theorem ownI_low {w : World} {B B' : Nat} {v : Value} {l : List Int} (h : OwnI w B v l) (hB : B' ≤ B) : OwnI w B' v l := by
  obtain ⟨h1, h2⟩ := h
  refine ⟨h1, ?_⟩
  rcases h2 with h2 | ⟨g, cap, cur, hv, hg, r⟩
  · exact Or.inl h2
  · exact Or.inr ⟨g, cap, cur, hv, Nat.le_trans hB hg, r⟩
set_option maxHeartbeats 2000000 in
theorem pfixed (w : World) : Calls Tryz.prog 73 #[] w (NewL w fixI) := by
  have H1 := Lib.hid (fun wx : World => (prepeat (wx.alloc (.cells #[.int .i64 8] 3)) wx.heap.size 8 144 (by omega) (by omega) (heap_alloc_new _ _) pmul_144))
  have H2 := Lib.hid (fun wx : World => (prepeat (wx.alloc (.cells #[.int .i64 9] 3)) wx.heap.size 9 112 (by omega) (by omega) (heap_alloc_new _ _) pmul_112))
  have H3 := Lib.hid (fun wx : World => (prepeat (wx.alloc (.cells #[.int .i64 7] 3)) wx.heap.size 7 24 (by omega) (by omega) (heap_alloc_new _ _) pmul_24))
  have H4 := Lib.hid (fun wx : World => (prepeat (wx.alloc (.cells #[.int .i64 8] 3)) wx.heap.size 8 8 (by omega) (by omega) (heap_alloc_new _ _) pmul_8))
  have HA := Lib.hid (fun (wx : World) (o : Obj) => (Fr.refl (fun _ => False) wx).alloc o)
  go_enter Tryz.func73, Tryz.ntmps73
  go_wp2_with fail
  refine (H1.out _).mono ?_
  rintro e w1 ⟨g1, rfl, r1, _, f1⟩
  have R1 := Lib.hid (⟨r1, (HA.out w _).trans f1 (fun _ _ e => e)⟩ : _ ∧ _)
  clear r1 f1 H1
  go_wp2_with fail
  refine (H2.out _).mono ?_
  rintro e w2 ⟨g2, rfl, r2, _, f2⟩
  have R2 := Lib.hid (⟨r2, (HA.out w1 _).trans f2 (fun _ _ e => e)⟩ : _ ∧ _)
  clear r2 f2 H2
  go_wp2_with fail
  refine (H3.out _).mono ?_
  rintro e w3 ⟨g3, rfl, r3, _, f3⟩
  have R3 := Lib.hid (⟨r3, (HA.out w2 _).trans f3 (fun _ _ e => e)⟩ : _ ∧ _)
  clear r3 f3 H3
  go_wp2_with fail
  refine (H4.out _).mono ?_
  rintro e w4 ⟨g4, rfl, r4, _, f4⟩
  have R4 := Lib.hid (⟨r4, (HA.out w3 _).trans f4 (fun _ _ e => e)⟩ : _ ∧ _)
  clear r4 f4 H4
  go_wp2_with fail
  have HC := Lib.hid (concat_ints _ w4.heap.size 4 (fixP g1 g2 g3 g4) (fix_rows R1.out.2 R2.out.2 R3.out.2 R4.out.2 R1.out.1 R2.out.1 R3.out.1 R4.out.1) (by show 4 ≤ 100; omega) (by rw [show (fixP g1 g2 g3 g4).length = 4 from rfl, fix_cat]; decide +kernel))
  rw [show (fixP g1 g2 g3 g4).length = 4 from rfl, fix_cat] at HC
  refine HC.out.mono ?_
  rintro e w5 ⟨A, cap, rfl, ho, hF⟩
  obtain ⟨n, hn⟩ : ∃ n, n = fixI.length := ⟨_, rfl⟩
  have H5 := Lib.hid (show OwnI w5 w.heap.size (.slice A fixI.length cap) fixI from ownI_low ho (by
    have h1 := R1.out.2.size
    have h2 := R2.out.2.size
    have h3 := R3.out.2.size
    have h4 := R4.out.2.size
    rw [World.size_alloc]
    omega))
  have HNN := Lib.hid hn
  rw [← hn]
  have HFR := Lib.hid (((((R1.out.2.trans R2.out.2 (fun _ _ e => e)).trans R3.out.2 (fun _ _ e => e)).trans R4.out.2 (fun _ _ e => e)).alloc (.cells #[slA g1 144, slA g2 112, slA g3 24, slA g4 8] 66)).trans hF (fun _ _ e => e))
  clear ho hF HC hn
  go_wp2_with fail
  go_ret
  exact ⟨A, cap, by rw [← HNN.out]; rfl, H5.out, HFR.out⟩
end Go.Proofs.YtcdhakfmljjaoaaGreatDoor.cd
