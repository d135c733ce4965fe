/-
  slices.Grow of nil and slices.Concat, at names.
-/
import Derived.Test.YtppkmfhlmmlckaaNpB
import Derived.Lib.AppendZeros
namespace Go.Proofs.Ytppkmfhlmmlckaa.nm
set_option maxRecDepth 100000
open Go.RowKit Go.Maps

set_option maxHeartbeats 2000000 in
theorem grow_any (w : World) (n : Nat) (hn : n ≤ 5864062014805) :
    Calls Try.prog 47 #[.slice none 0 0, .int .i64 n] w fun e w' => ∃ v, e = .returned v ∧ w'.ownsRow w.heap.size 41 2 v 0 [] ∧ Fr (fun _ => False) w w' := by
  rcases Nat.eq_zero_or_pos n with h0 | h0
  · subst h0
    clear hn
    go_enter Try.func47, Try.ntmps47
    go_wp2
    go_ret
    exact ⟨_, rfl, ⟨rfl, Or.inl ⟨rfl, rfl⟩⟩, Fr.refl _ _⟩
  · obtain ⟨i0, hi, hz0, hz1, hz2⟩ := info_parts infoN
    have hrz : ∀ ty, (Builtin.append_ #[23, 3] ty #[.slice none 0 0, .int .i64 n]).run Try.prog w = .ok (.slice (some ⟨w.heap.size, 0, none⟩) n (grownCap w n 0 41)) (w.drew.alloc (.cells (Builtin.zeroCells zeroN.cells n ++ Builtin.zeroCells zeroN.cells (grownCap w n 0 41 - n)) 41)) := fun ty =>
      Lib.run_append_nil_zeros w 23 3 ty 41 i0 zeroN .i64 .i64 Try.underlying23 Try.underlying3 hi hz0 n h0 (by omega) (by omega) (by rw [hz2]; omega)
    have hGn : n ≤ grownCap w n 0 41 := grownCap_ge w _ _ _
    have hG63 : grownCap w n 0 41 ≤ maxLen := grownCap_le_maxLen w n 0 41 (by unfold maxLen; omega)
    obtain ⟨G, hG⟩ : ∃ G, G = grownCap w n 0 41 := ⟨_, rfl⟩
    rw [← hG] at hrz hGn hG63
    obtain ⟨cur, hcur⟩ : ∃ cur, cur = Builtin.zeroCells zeroN.cells n ++ Builtin.zeroCells zeroN.cells (G - n) := ⟨_, rfl⟩
    have hsz : cur.size = G * 2 := by rw [hcur, Array.size_append, size_zeroCells, size_zeroCells]; show n * 2 + (G - n) * 2 = G * 2; omega
    rw [← hcur] at hrz
    have HO : Hid ((w.drew.alloc (.cells cur 41)).ownsRow w.heap.size 41 2 (.slice (some ⟨w.heap.size, 0, none⟩) 0 G) 0 []) := Lib.hid (World.ownsRow_made w.drew cur G (Nat.le_refl _) hG63 hsz)
    have HF := Lib.hid (((Fr.refl (fun _ => False) w).drew).alloc (.cells cur 41))
    have HR := Lib.hid hrz
    have hG63' : G ≤ 9223372036854775807 := by unfold maxLen at hG63; omega
    clear hi hz0 hz1 hz2 hrz hG hcur hsz hG63
    go_enter Try.func47, Try.ntmps47
    go_wp2_with (at_builtin; refine Lib.wpList_append_run _ rfl _ _ _ _ rfl _ _ rfl rfl _ _ (HR.out _) ?_)
    go_ret
    exact ⟨_, rfl, HO.out, HF.out⟩

/-- Slices of names, side by side. -/
abbrev Pt := Option Addr × Nat × List Nm
abbrev ptV (q : Pt) : Value := .slice q.1 q.2.2.length q.2.1
def cat (P : List Pt) (k : Nat) : List Nm := (P.take k).flatMap (·.2.2)
theorem cat_next {P : List Pt} {k : Nat} {q : Pt} (h : P[k]? = some q) : cat P (k + 1) = cat P k ++ q.2.2 := by
  unfold cat
  rw [List.take_add_one, h, List.flatMap_append]
  simp
theorem cat_len {P : List Pt} {k : Nat} : (cat P k).length ≤ (cat P P.length).length := by
  rcases Nat.lt_or_ge k P.length with h | h
  · unfold cat
    rw [List.take_length]
    conv => rhs; rw [← List.take_append_drop k P, List.flatMap_append, List.length_append]
    omega
  · unfold cat
    rw [List.take_of_length_le h, List.take_length]
    exact Nat.le_refl _
/-- Parts that are read, laid out behind an address. -/
structure RdP (w : World) (g o : Nat) (P : List Pt) : Prop where
  cell : ∀ (k : Nat) (q : Pt), P[k]? = some q → w.cell? ⟨g, o + k, none⟩ = some (ptV q)
  block : g < w.heap.size
  rd : ∀ (k : Nat) (q : Pt), P[k]? = some q → RdN w w.heap.size q.1 q.2.2 ∧ (q.1 = none → q.2.1 = 0)
theorem RdP.still {w w' : World} {g o : Nat} {P : List Pt} (h : RdP w g o P) (hF : Fr (fun _ => False) w w') : RdP w' g o P :=
  ⟨fun k q hk => (World.cell?_of_block (w := w) (w' := w') (a := ⟨g, o + k, none⟩) (hF.block g h.block id)).trans (h.cell k q hk), Nat.lt_of_lt_of_le h.block hF.size, fun k q hk => ⟨((h.rd k q hk).1.still hF (Nat.le_refl _)).more hF.size, (h.rd k q hk).2⟩⟩

set_option maxHeartbeats 4000000 in
theorem concat_any (w : World) (g o cap : Nat) (P : List Pt) (hP : RdP w g o P) (hm : P.length ≤ 1000) (hl : (cat P P.length).length ≤ 5864062014805) :
    Calls Try.prog 38 #[.slice (some ⟨g, o, none⟩) P.length cap] w fun e w' => ∃ v, e = .returned v ∧ w'.ownsRow w.heap.size 41 2 v (cat P P.length).length (ncs (cat P P.length)) ∧ Fr (fun _ => False) w w' := by
  obtain ⟨i0, hi, hz0, hz1, hz2⟩ := info_parts infoN
  have HI := Lib.hid (⟨hi, hz0, hz1, hz2⟩ : _ ∧ _ ∧ _ ∧ _)
  obtain ⟨m, hmm⟩ : ∃ m, m = P.length := ⟨_, rfl⟩
  have HL : Hid (∀ k, (cat P k).length ≤ 5864062014805) := Lib.hid fun k => Nat.le_trans cat_len hl
  have HP := Lib.hid hP
  rw [← hmm] at hm hl ⊢
  have HM := Lib.hid hmm
  clear hi hz0 hz1 hz2 hP hmm hl
  go_enter Try.func38, Try.ntmps38
  go_wp2_with fail
  go_loop [3, 11] (fun s i => ∃ k c : Nat, k ≤ m ∧ s = .int .i64 c ∧ i = .int .i64 k ∧ Hid (c = (cat P k).length)) (fun _ i => m - (intOf i).toNat)
  case atStart => exact ⟨0, 0, Nat.zero_le _, rfl, rfl, (show _ = _ from rfl)⟩
  case round =>
    obtain ⟨k, c, hk, rfl, rfl, HC⟩ := hrel
    have hc5 : c ≤ 5864062014805 := by rw [HC.out]; exact HL.out k
    by_cases hlt : k < m
    · obtain ⟨q, hq⟩ : ∃ q, P[k]? = some q := ⟨_, List.getElem?_eq_getElem (by have := HM.out; omega)⟩
      have p0 := HP.out.cell k q hq
      have HN := Lib.hid (cat_next hq)
      obtain ⟨Aq, cq, lq⟩ := q
      have hN2 := HL.out (k + 1)
      rw [HN.out, List.length_append, ← HC.out] at hN2
      obtain ⟨d, hd⟩ : ∃ d, d = lq.length := ⟨_, rfl⟩
      have p1 : w.cell? ⟨g, o + k, none⟩ = some (.slice Aq d cq) := by rw [p0, hd]
      have hN3 : c + d ≤ 5864062014805 := by rw [hd]; exact hN2
      have HD := Lib.hid (show c + d = (cat P (k + 1)).length by rw [HN.out, List.length_append, ← HC.out, hd])
      clear p0 hq hd hN2
      go_wp2_with fail
      go_round
      case rel => exact ⟨k + 1, c + d, by omega, by go_num, by go_num, HD⟩
      case measure => simp [intOf]; omega
    · obtain rfl : k = m := by omega
      have HG := Lib.hid (fun (wr : World) => grow_any wr c hc5)
      go_wp2_with fail
      refine (HG.out _).mono ?_
      rintro e w1 ⟨v, rfl, hown, hF⟩
      have HO := Lib.hid (⟨hown, hF⟩ : _ ∧ _)
      clear hown hF HG
      go_wp2_with fail
      go_loopw [6, 27] (fun v i wr => ∃ j : Nat, j ≤ k ∧ i = .int .i64 j ∧ Hid (wr.ownsRow w.heap.size 41 2 v (cat P j).length (ncs (cat P j)) ∧ Fr (fun _ => False) w wr)) (fun _ i _ => k - (intOf i).toNat)
      case atStart => exact ⟨0, Nat.zero_le _, rfl, (show _ ∧ _ from HO.out)⟩
      case round =>
        obtain ⟨j, hj, rfl, HW⟩ := hrel
        by_cases hlt2 : j < k
        · obtain ⟨q, hq⟩ : ∃ q, P[j]? = some q := ⟨_, List.getElem?_eq_getElem (by have := HM.out; omega)⟩
          have hPr := HP.out.still HW.out.2
          have p0 := hPr.cell j q hq
          have HN := Lib.hid (cat_next hq)
          have hrq := HP.out.rd j q hq
          obtain ⟨Aq, cq, lq⟩ := q
          have hN2 := HL.out (j + 1)
          rw [HN.out, List.length_append] at hN2
          obtain ⟨d, hd⟩ : ∃ d, d = lq.length := ⟨_, rfl⟩
          have p1 : wr.cell? ⟨g, o + j, none⟩ = some (.slice Aq d cq) := by rw [p0, hd]
          obtain ⟨cj, hcj⟩ : ∃ cj, cj = (cat P j).length := ⟨_, rfl⟩
          have hN3 : cj + d ≤ 5864062014805 := by rw [hd, hcj]; exact hN2
          have HD := Lib.hid (show cj + d = (cat P (j + 1)).length by rw [HN.out, List.length_append, hcj, hd])
          have HCJ := Lib.hid hcj
          have HDD := Lib.hid hd
          clear p0 hq hd hN2 hcj hPr
          cases Aq with
          | none =>
            have h0 : lq = [] := by
              apply Decidable.byContradiction
              intro hne
              obtain ⟨_, _, e, _⟩ := hrq.1.cells hne
              cases e
            obtain rfl : d = 0 := by rw [HDD.out, h0]; rfl
            obtain rfl : cq = 0 := hrq.2 rfl
            have HE := Lib.hid (show cat P (j + 1) = cat P j by rw [HN.out]; show _ ++ lq = _; rw [h0, List.append_nil])
            clear hrq h0
            go_wp2_with (at_builtin; refine wpList_append_own_none rfl (.tmp 31) (.tmp 32) 23 rfl w.heap.size 41 i0 2 Try.underlying23 HI.out.1 _ _ _ rfl HW.out.1 rfl ?_)
            go_roundw
            case rel => exact ⟨j + 1, by omega, by go_num, (show _ ∧ _ by rw [HE.out]; exact HW.out)⟩
            case measure => simp [intOf]; omega
          | some ad =>
            have HS := Lib.hid (srcN (hrq.1.still HW.out.2 (Nat.le_refl _)))
            clear hrq
            go_wp2_with (at_builtin; refine wpList_append_own _ rfl (.tmp 31) (.tmp 32) 23 rfl w.heap.size 41 i0 zeroN 2 24 Try.underlying23 HI.out.1 HI.out.2.1 HI.out.2.2.1 HI.out.2.2.2 rfl (by omega) _ (cat P j).length _ rfl HW.out.1 ad d cq (ncs lq) rfl (by rw [ncs_length, ← HDD.out]) HS.out (ncs_one lq) (by rw [← HCJ.out]; unfold maxLen; omega) (by rw [← HCJ.out]; omega) HW.out.2.size ?_; intro v' w2 hown2 hgrow2 _)
            have H2 := Lib.hid (show w2.ownsRow w.heap.size 41 2 v' (cat P (j + 1)).length (ncs (cat P (j + 1))) ∧ Fr (fun _ => False) w w2 from ⟨by rw [HN.out, ncs_append, List.length_append, ← HDD.out]; exact hown2, HW.out.2.grown hgrow2 (fun q e => own_ge HW.out.1 e)⟩)
            clear hown2 hgrow2
            go_wp2
            go_roundw
            case rel => exact ⟨j + 1, by omega, by go_num, H2⟩
            case measure => simp [intOf]; omega
        · obtain rfl : j = k := by omega
          go_wp2_with fail
          go_ret
          exact ⟨_, rfl, HW.out⟩
end Go.Proofs.Ytppkmfhlmmlckaa.nm
