/-
  The program's All.
-/
import Derived.Test.YtldlonkaedjdpaaPuC
namespace Go.Proofs.Ytldlonkaedjdpaa.pt
set_option maxRecDepth 100000
open Go.RowKit Go.Maps
set_option maxRecDepth 100000
attribute [local go_sem] Oper.semAt_some

theorem join_app {c : UInt8} {qs : List Tx} (h2 : qs ≠ []) : ∀ {ps : List Tx}, ps ≠ [] → joinB c (ps ++ qs) = joinB c ps ++ c :: joinB c qs
  | [], h => absurd rfl h
  | [a], _ => by rw [List.singleton_append, join_cons h2]; rfl
  | a :: b :: r, _ => by
    have ih := join_app (c := c) h2 (ps := b :: r) (by simp)
    rw [List.cons_append, join_cons (by simp), ih, join_cons (by simp : b :: r ≠ []), List.append_assoc]
    rfl
theorem up_facts {l : Tx} {k : Nat} (h : k < (splitB 47 l).length) : (upTo l k).length ≤ l.length ∧ l.take (upTo l k).length = upTo l k ∧ (pkB l k).length ≤ (upTo l k).length := by
  have hne : (splitB 47 l).take (k + 1) ≠ [] := by
    intro e
    have := congrArg List.length e
    rw [List.length_take, List.length_nil] at this
    omega
  have hp : (pkB l k).length ≤ (upTo l k).length := by
    unfold upTo
    rw [List.take_succ_eq_append_getElem h]
    have hk : pkB l k = (splitB 47 l)[k] := by unfold pkB; rw [List.getElem?_eq_getElem h]; rfl
    rw [← hk]
    by_cases e : (splitB 47 l).take k = []
    · rw [e]; exact Nat.le_refl _
    · rw [join_snoc e, List.length_append, List.length_cons]; omega
  by_cases hd : (splitB 47 l).drop (k + 1) = []
  · have e : (splitB 47 l).take (k + 1) = splitB 47 l := by
      have := List.take_append_drop (k + 1) (splitB 47 l)
      rwa [hd, List.append_nil] at this
    have e2 : upTo l k = l := by unfold upTo; rw [e, join_split]
    rw [e2] at hp ⊢
    exact ⟨Nat.le_refl _, List.take_length, hp⟩
  · have e : l = upTo l k ++ 47 :: joinB 47 ((splitB 47 l).drop (k + 1)) := by
      unfold upTo
      rw [← join_app hd hne, List.take_append_drop, join_split]
    refine ⟨?_, ?_, hp⟩
    · conv => rhs; rw [e]
      rw [List.length_append]
      omega
    · conv => lhs; arg 2; rw [e]
      exact List.take_left
theorem up_next {l : Tx} {k : Nat} (h : k + 1 < (splitB 47 l).length) : (upTo l (k + 1)).length = (upTo l k).length + 1 + (pkB l (k + 1)).length := by
  have hk : pkB l (k + 1) = (splitB 47 l)[k + 1] := by unfold pkB; rw [List.getElem?_eq_getElem h]; rfl
  unfold upTo
  rw [List.take_succ_eq_append_getElem h, join_snoc (by intro e; have := congrArg List.length e; rw [List.length_take, List.length_nil] at this; omega), List.length_append, List.length_cons, ← hk]
  omega
theorem up_zero {l : Tx} : (upTo l 0).length = (pkB l 0).length := by
  unfold upTo pkB
  cases h : splitB 47 l with
  | nil => exact absurd h (split_ne _ _)
  | cons a r => rfl
/-- What All has gathered. -/
def alT (l : Tx) (k : Nat) : List Tx := (List.range k).map (upTo l)
theorem alT_length (l : Tx) (k : Nat) : (alT l k).length = k := by unfold alT; rw [List.length_map, List.length_range]
theorem alT_succ (l : Tx) (k : Nat) : alT l (k + 1) = alT l k ++ [upTo l k] := up_succ l k
theorem own_fr {w w' : World} {base n size : Nat} {e : TypeId} {v : Value} {xs : List Value} (h : w.ownsRow base e size v n xs) (hF : Fr (fun _ => False) w w') : w'.ownsRow base e size v n xs := by
  obtain ⟨h1, h2⟩ := h
  refine ⟨h1, ?_⟩
  rcases h2 with h2 | ⟨g, cap, cur, hv, hg, hh, r⟩
  · exact Or.inl h2
  · exact Or.inr ⟨g, cap, cur, hv, hg, (hF.block g (Array.getElem?_eq_some_iff.1 hh).1 id).trans hh, r⟩
theorem own_base {w : World} {base base' n size : Nat} {e : TypeId} {v : Value} {xs : List Value} (h : w.ownsRow base e size v n xs) (hb : base' ≤ base) : w.ownsRow base' e size v n xs := by
  obtain ⟨h1, h2⟩ := h
  refine ⟨h1, ?_⟩
  rcases h2 with h2 | ⟨g, cap, cur, hv, hg, r⟩
  · exact Or.inl h2
  · exact Or.inr ⟨g, cap, cur, hv, Nat.le_trans hb hg, r⟩
theorem own_block {w : World} {base n size : Nat} {e : TypeId} {v : Value} {xs : List Value} (h : w.ownsRow base e size v n xs) {q : Nat} (hq : v.ownBlock = some q) : base ≤ q := by
  rcases h.2 with ⟨rfl, _⟩ | ⟨g, cap, cur, rfl, hg, _⟩
  · cases hq
  · cases hq
    exact hg
theorem box_fr {w w' : World} {B : Nat} {t : TypeId} {v : Value} (h : Boxed w B t v) (hF : Fr (fun _ => False) w w') : Boxed w' B t v := (hF.block B h.lt id).trans h
set_option maxHeartbeats 8000000 in
theorem pall (w : World) (s : ByteArray) (hs : s.size ≤ 1099511627776) : Calls Try.prog 26 #[.string s] w (NewS w (allL s.toList)) := by
  by_cases h0 : s.toList = []
  · obtain rfl : s = ⟨#[]⟩ := empty_tx h0
    rw [h0]
    have HF := Lib.hid ((Fr.refl (fun _ => False) w).alloc (.cells #[.string ⟨#[]⟩] 9))
    have HN := Lib.hid (World.ownsRow_nil (w.alloc (.cells #[.string ⟨#[]⟩] 9)) w.heap.size 9 1)
    go_enter Try.func26, Try.ntmps26
    go_wp2_with fail
    go_ret
    exact ⟨none, 0, rfl, HN.out, HF.out⟩
  have h0' := isE h0
  obtain ⟨N, hN⟩ : ∃ N, N = (splitB 47 s.toList).length := ⟨_, rfl⟩
  have HN := Lib.hid hN
  have HPP := Lib.hid (fun wx => callsIn_wide (n := 2) |>.2 (pparts wx s))
  have HAL := Lib.hid (show allL s.toList = alT s.toList N by unfold allL alT; rw [if_neg h0, hN])
  rw [HAL.out]
  clear h0
  refine (callsIn_wide (n := 3)).1 ?_
  refine callsIn_of_wp_marks Try.func26 rfl trivial ?_ rfl
  simp only [Try.ntmps26, List.size_toArray, List.length_cons, List.length_nil, Nat.reduceAdd, Nat.reduceSub, Array.replicate_succ, Array.replicate_zero, List.push_toArray, List.append_toArray, List.nil_append, List.cons_append]
  gi_wp2_with (refine ⟨trivial, ?_⟩; gi_at_call 32; refine (HPP.out _).mono ?_; rintro e w' ⟨rfl, rfl⟩)
  obtain ⟨B0, hB0⟩ : ∃ B0, B0 = w.heap.size := ⟨_, rfl⟩
  obtain ⟨B1, hB1⟩ : ∃ B1, B1 = w.heap.size + 1 := ⟨_, rfl⟩
  obtain ⟨B2, hB2⟩ : ∃ B2, B2 = w.heap.size + 1 + 1 := ⟨_, rfl⟩
  obtain ⟨B3, hB3⟩ : ∃ B3, B3 = w.heap.size + 1 + 1 + 1 := ⟨_, rfl⟩
  obtain ⟨V, hV⟩ : ∃ V, V = (((w.alloc (.cells #[.string s] 9)).alloc (.cells #[.slice none 0 0] 33)).alloc (.cells #[.int .i64 0] 3)).alloc (.cells #[.string s] 9) := ⟨_, rfl⟩
  have v0 : Boxed V B0 9 (.string s) := by rw [hV, hB0]; exact (((Boxed.new w _ _).alloc _).alloc _).alloc _
  have v1 : Boxed V B1 33 (.slice none 0 0) := by
    have := Boxed.new (w.alloc (.cells #[.string s] 9)) 33 (.slice none 0 0)
    rw [World.size_alloc] at this
    rw [hV, hB1]
    exact (this.alloc _).alloc _
  have v2 : Boxed V B2 3 (.int .i64 0) := by
    have := Boxed.new ((w.alloc (.cells #[.string s] 9)).alloc (.cells #[.slice none 0 0] 33)) 3 (.int .i64 0)
    rw [World.size_alloc, World.size_alloc] at this
    rw [hV, hB2]
    exact this.alloc _
  have v3 : Boxed V B3 9 (.string s) := by
    have := Boxed.new (((w.alloc (.cells #[.string s] 9)).alloc (.cells #[.slice none 0 0] 33)).alloc (.cells #[.int .i64 0] 3)) 9 (.string s)
    rw [World.size_alloc, World.size_alloc, World.size_alloc] at this
    rw [hV, hB3]
    exact this
  have hVB : Below w.heap.size w V := by
    rw [hV]
    exact ((((Below.refl _ w).alloc (Nat.le_refl _) _).alloc (by simp) _).alloc (by simp; omega) _).alloc (by simp; omega) _
  have hVs : V.heap.size = w.heap.size + 1 + 1 + 1 + 1 := by rw [hV]; simp
  rw [← hV, ← hB3, ← hB2, ← hB1, ← hB0]
  have HSEQ : rn.SeqN Fence.wide 2 Try.prog 44 #[.pointer (some ⟨B3, 0, none⟩)] (encP s.toList) N V := by
    rw [hN]
    exact parts_seq 2 (by omega) s hs _ _ v3.lt v3.cell
  have HBS := Lib.hid (show w.heap.size ≤ B0 ∧ w.heap.size ≤ B1 ∧ w.heap.size ≤ B2 ∧ B0 ≠ B1 ∧ B0 ≠ B2 ∧ B1 ≠ B2 ∧ B0 < V.heap.size ∧ B1 < V.heap.size ∧ B2 < V.heap.size ∧ w.heap.size ≤ V.heap.size by omega)
  clear hV hB0 hB1 hB2 hB3 hVs
  refine rn.rangeN rfl (by omega) (gf := 44) (lb := #[.pointer (some ⟨B3, 0, none⟩)]) rfl trivial (enters_of Try.func44 (by kernel_rfl) rfl) HSEQ (Below.refl _ _) (fun _ => rfl)
    (fun k W => (∃ o : Nat, Boxed W B2 3 (.int .i64 o) ∧ (k < N → o + (pkB s.toList k).length = (upTo s.toList k).length)) ∧ Boxed W B0 9 (.string s) ∧ (∃ v, Boxed W B1 33 v ∧ W.ownsRow V.heap.size 9 1 v k (ss (alT s.toList k)) ∧ True) ∧ Below w.heap.size w W ∧ V.heap.size ≤ W.heap.size)
    (fun _ _ => False)
    (OwnFrom.and (fun k A B row ⟨o, h1, h2⟩ hg hr => ⟨o, (boxed_own (β := Nat) B2 3 (fun o => .int .i64 o)).from _ o A B row h1 hg hr, h2⟩) (OwnFrom.and (Own.from (boxed_own _ _ _) _) (OwnFrom.and (Own.from (holdsRow_own V.heap.size B1 33 9 1 (fun k => k) (fun k => ss (alT s.toList k)) (fun _ _ => True)) _) (OwnFrom.and (ownFrom_below (Nat.le_refl _) (HBS.out.2.2.2.2.2.2.2.2.2)) (fun _ _ _ _ h hg _ => Nat.le_trans h hg.size)))))
    (fun _ _ _ _ hs _ _ => hs)
    ⟨⟨0, v2, fun _ => by rw [up_zero]; omega⟩, v0, ⟨_, v1, World.ownsRow_nil _ _ _ _, trivial⟩, hVB, Nat.le_refl _⟩
    (fun k => { tmps := #[.string s, .pointer (some ⟨B0, 0, none⟩), .slice none 0 0, .pointer (some ⟨B1, 0, none⟩), .pointer (some ⟨B2, 0, none⟩), .string (tx (pkB s.toList k)), .string s, .bool false, .string s, .func (.func 44) #[] #[.pointer (some ⟨B3, 0, none⟩)], .string (tx (pkB s.toList k)), undef, undef, undef, undef, undef, undef, undef, undef, undef, undef, undef, undef, undef], defers := [] }) ?assign ?body ?done ?stop
  case assign =>
    intro l k W K hK
    gi_wp2
    exact hK
  case body =>
    rintro l k W hk ⟨⟨o, hb2, ho⟩, hb0, ⟨v, hb1, hrow, -⟩, hB, hVW⟩
    have ho := ho hk
    have hu := up_facts (l := s.toList) (k := k) (by rw [← hN]; exact hk)
    rw [toL_len] at hu
    obtain ⟨X, hX⟩ : ∃ X, X = tx (pkB s.toList k) := ⟨_, rfl⟩
    have hXs : X.size = (pkB s.toList k).length := by rw [hX]; exact tx_size _
    rw [← hX]
    obtain ⟨u, hu1⟩ : ∃ u, u = (upTo s.toList k).length := ⟨_, rfl⟩
    rw [← hu1] at hu ho
    have hus : u ≤ s.size := hu.1
    have hsum : IntKind.i64.wrap ((o : Int) + (X.size : Int)) = (u : Int) := by rw [IntKind.wrap_i64]; omega
    have hsum2 : (o : Int) + (X.size : Int) = (u : Int) := by omega
    have c2 := hb2.cell
    have f2 := hb2.frozen
    have HX := Lib.hid (show s.extract 0 u = tx (upTo s.toList k) by rw [tx_ext, List.drop_zero, Nat.sub_zero, hu.2.1])
    have HO := Lib.hid (fun (h : k + 1 < N) => show u + 1 + (pkB s.toList (k + 1)).length = (upTo s.toList (k + 1)).length by rw [hu1]; exact (up_next (by rw [← hN]; exact h)).symm)
    have HU1 := Lib.hid hb0
    have HU2 := Lib.hid (⟨hb1, hrow, hB⟩ : _ ∧ _ ∧ _)
    have HU3 := Lib.hid (hb2.set (.int .i64 u))
    clear hu hu1 hX hXs ho hb0 hb1 hrow hB hN
    gi_wp2_with fail
    obtain ⟨U, hU⟩ : ∃ U, U = W.setCell ⟨B2, 0, none⟩ (.int .i64 u) := ⟨_, rfl⟩
    obtain ⟨n1, n2, n3, n4, n5, n6, n7, n8, n9, n10⟩ := HBS.out
    have u2 : Boxed U B2 3 (.int .i64 u) := by rw [hU]; exact HU3.out
    have u0 : Boxed U B0 9 (.string s) := by rw [hU]; exact HU1.out.other n5 _
    have u1 : Boxed U B1 33 v := by rw [hU]; exact HU2.out.1.other n6 _
    have uo : U.ownsRow V.heap.size 9 1 v k (ss (alT s.toList k)) := by rw [hU]; exact HU2.out.2.1.kept (grownBy_setCell' W B2 _) (.inr (hb2.not_row (by decide) HU2.out.2.1).symm)
    have ub : Below w.heap.size w U := by rw [hU]; exact HU2.out.2.2.setCell (p := ⟨B2, 0, none⟩) n3 _
    have uz : V.heap.size ≤ U.heap.size := by rw [hU]; exact Nat.le_trans hVW (KeepsOthers.setCell W _ _).size
    have uk : KeepsOthers W U := by rw [hU]; exact KeepsOthers.setCell _ _ _
    rw [← hU]
    have d0 : ∀ o : Obj, (U.alloc o).cell? ⟨B0, 0, none⟩ = some (.string s) := fun o => (u0.alloc o).cell
    have d1 : ∀ o : Obj, (U.alloc o).cell? ⟨B1, 0, none⟩ = some v := fun o => (u1.alloc o).cell
    have e0 := u0.cell
    have e1 := u1.cell
    have e2 := u2.cell
    have e2i : (0 : Int) ≤ u := by omega
    have e2j : (u : Int) ≤ s.size := by omega
    have hmx : Try.prog.follows .mixedOrders = true := by kernel_rfl
    obtain ⟨i0, hi, hz0, hz1, hz2⟩ := info_parts infoS
    have hFD := ((Fr.refl (fun _ => False) U).alloc (.cells #[.string (s.extract 0 u)] 9)).drew
    have HOD := Lib.hid (own_fr uo hFD)
    have HNW := Lib.hid (newsS ((U.alloc (.cells #[.string (s.extract 0 u)] 9)).drew) (g := U.heap.size) (x := s.extract 0 u) (heap_alloc_new U _))
    have HSZ := Lib.hid (show V.heap.size ≤ ((U.alloc (.cells #[.string (s.extract 0 u)] 9)).drew).heap.size from Nat.le_trans uz hFD.size)
    have hkk : k < s.size + 1 := by
      have := (split_len (c := 47) (l := s.toList)).2
      rw [toL_len, ← HN.out] at this
      omega
    have hUd := (Fr.refl (fun _ => False) U).drew
    have AFT := Lib.hid (fun (v1 : Value) (w1 : World) (h1 : w1.ownsRow V.heap.size 9 1 v1 (k + 1) (ss (alT s.toList k) ++ [.string (s.extract 0 u)])) (h2 : ((U.alloc (.cells #[.string (s.extract 0 u)] 9)).drew).grownBy w1 v.ownBlock) =>
      show Boxed w1 B1 33 v ∧ Boxed (w1.setCell ⟨B1, 0, none⟩ v1) B2 3 (.int .i64 u) ∧ Boxed (w1.setCell ⟨B1, 0, none⟩ v1) B0 9 (.string s) ∧ Boxed (w1.setCell ⟨B1, 0, none⟩ v1) B1 33 v1 ∧ (w1.setCell ⟨B1, 0, none⟩ v1).ownsRow V.heap.size 9 1 v1 (k + 1) (ss (alT s.toList (k + 1))) ∧ Below w.heap.size w (w1.setCell ⟨B1, 0, none⟩ v1) ∧ KeepsFrom V.heap.size W (w1.setCell ⟨B1, 0, none⟩ v1) ∧ V.heap.size ≤ (w1.setCell ⟨B1, 0, none⟩ v1).heap.size by
        obtain ⟨a1, a2, a3, a4, a5⟩ := (box_fr u1 hUd).appended (tmp := .cells #[.string (s.extract 0 u)] 9) (by decide) (own_base (own_fr uo hUd) n10) ub.size n2 (own_base h1 n10) h2
        refine ⟨a1, ?_, ?_, a2, ?_, ?_, ?_, ?_⟩
        · refine Boxed.other ?_ (Ne.symm n6) _
          exact (box_fr u2 hFD).kept h2 ((box_fr u2 hFD).not_row (by decide) HOD.out)
        · refine Boxed.other ?_ n4 _
          exact (box_fr u0 hFD).kept h2 (fun e => by have := own_block HOD.out e.symm; omega)
        · rw [alT_succ, ss_append]
          have : ss [upTo s.toList k] = [.string (s.extract 0 u)] := by rw [HX.out]; rfl
          rw [this]
          exact h1.kept (grownBy_setCell' w1 B1 v1) (.inr (a1.not_row (by decide) h1).symm)
        · exact ub.trans (Below.trans (hUd.below ub.size (fun _ _ h => h)) a5)
        · exact ((uk.from _).trans (KeepsFrom.trans ((KeepsOthers.drew _).from _) (a4.from _)))
        · exact Nat.le_trans HSZ.out (Nat.le_trans h2.size (KeepsOthers.setCell _ _ _).size))
    have FIN := Lib.hid (fun (Z : World) (v1 : Value) (h1 : Boxed Z B2 3 (.int .i64 u)) (h2 : Boxed Z B0 9 (.string s)) (h3 : Boxed Z B1 33 v1) (h4 : Z.ownsRow V.heap.size 9 1 v1 (k + 1) (ss (alT s.toList (k + 1)))) (h5 : Below w.heap.size w Z) (h6 : KeepsFrom V.heap.size W Z) (h7 : V.heap.size ≤ Z.heap.size) =>
      show KeepsFrom V.heap.size W (Z.setCell ⟨B2, 0, none⟩ (.int .i64 ((u : Int) + 1))) ∧ (∃ o : Nat, Boxed (Z.setCell ⟨B2, 0, none⟩ (.int .i64 ((u : Int) + 1))) B2 3 (.int .i64 o) ∧ (k + 1 < N → o + (pkB s.toList (k + 1)).length = (upTo s.toList (k + 1)).length)) ∧ Boxed (Z.setCell ⟨B2, 0, none⟩ (.int .i64 ((u : Int) + 1))) B0 9 (.string s) ∧ (∃ v, Boxed (Z.setCell ⟨B2, 0, none⟩ (.int .i64 ((u : Int) + 1))) B1 33 v ∧ (Z.setCell ⟨B2, 0, none⟩ (.int .i64 ((u : Int) + 1))).ownsRow V.heap.size 9 1 v (k + 1) (ss (alT s.toList (k + 1))) ∧ True) ∧ Below w.heap.size w (Z.setCell ⟨B2, 0, none⟩ (.int .i64 ((u : Int) + 1))) ∧ V.heap.size ≤ (Z.setCell ⟨B2, 0, none⟩ (.int .i64 ((u : Int) + 1))).heap.size from
        ⟨h6.trans ((KeepsOthers.setCell _ _ _).from _), ⟨u + 1, h1.set _, HO.out⟩, h2.other n5 _, ⟨v1, h3.other n6 _, h4.kept (grownBy_setCell' Z B2 _) (.inr (h1.not_row (by decide) h4).symm), trivial⟩, h5.setCell (p := ⟨B2, 0, none⟩) n3 _, Nat.le_trans h7 (KeepsOthers.setCell _ _ _).size⟩)
    have hw1 : IntKind.i64.wrap ((u : Int) + 1) = (u : Int) + 1 := by rw [IntKind.wrap_i64]; omega
    clear u0 u1 u2 uo ub uz uk hFD hUd HU1 HU2 HU3 HO hb2 hVW
    clear hU HBS
    refine wpIn_region_any (by assumption) ?_
    -- BEGIN
    refine wpAnyIn_ready (rs := [0, 1, 2]) (by kernel_rfl) (by simp) ?_
    refine AllReadyIn.cons rfl (fun K hK => ?_) ?_
    · go_simp
      refine hK _ _ ?_
      clear hK K
      refine wpAnyIn_ready (rs := [1, 2]) (by kernel_rfl) (by simp) ?_
      refine AllReadyIn.cons rfl (fun K hK => ?_) ?_
      · go_simp
        refine hK _ _ ?_
        clear hK K
        refine wpAnyIn_ready (rs := [2]) (by kernel_rfl) (by simp) ?_
        refine AllReadyIn.cons rfl (fun K hK => ?_) AllReadyIn.nil
        go_simp
        refine hK _ _ ?_
        clear hK K
        refine wpAnyIn_ready (rs := [3]) (by kernel_rfl) (by simp) ?_
        refine AllReadyIn.cons rfl (fun K hK => ?_) AllReadyIn.nil
        go_simp
        refine hK _ _ ?_
        clear hK K
        refine wpAnyIn_ready (rs := [4]) (by kernel_rfl) (by simp) ?_
        refine AllReadyIn.cons rfl (fun K hK => ?_) AllReadyIn.nil
        go_simp
        refine hK _ _ ?_
        clear hK K
        refine wpAnyIn_ready (rs := [5]) (by kernel_rfl) (by simp) ?_
        refine AllReadyIn.cons rfl (fun K hK => ?_) AllReadyIn.nil
        refine rn.step_append_in rfl (.tmp 15) (.tmp 19) 33 rfl V.heap.size 9 i0 zeroS 1 16 Try.underlying33 hi hz0 hz1 hz2 rfl (by decide) v k _ rfl HOD.out ⟨U.heap.size, 0, none⟩ 1 1 [.string (s.extract 0 u)] rfl rfl HNW.out (oneS _) (by unfold maxLen; omega) (by omega) HSZ.out ?_
        intro v1 w1 hown1 hgrow1
        obtain ⟨g1, cap1, rfl⟩ := ownsRow_succ hown1
        have hD := AFT.out _ _ hown1 hgrow1
        clear hown1 hgrow1
        have b1 := hD.1.cell
        have f1 := hD.1.frozen
        refine hK _ _ ?_
        clear hK K
        refine wpAnyIn_ready (rs := [6]) (by kernel_rfl) (by simp) ?_
        refine AllReadyIn.cons rfl (fun K hK => ?_) AllReadyIn.nil
        go_simp
        refine hK _ _ ?_
        clear hK K
        refine wpAnyIn_done (by kernel_rfl) ?_ _
        obtain ⟨-, z1, z2, z3, z4, z5, z6, z7⟩ := hD
        obtain ⟨Z, hZ⟩ : ∃ Z, Z = w1.setCell ⟨B1, 0, none⟩ (.slice (some ⟨g1, 0, none⟩) (k + 1) cap1) := ⟨_, rfl⟩
        rw [← hZ] at z1 z2 z3 z4 z5 z6 z7 ⊢
        have c2 := z1.cell
        have f2 := z1.frozen
        have HZZ := Lib.hid (FIN.out Z _ z1 z2 z3 z4 z5 z6 z7)
        clear z1 z2 z3 z4 z5 z6 z7 hZ
        gi_wp2_with fail
        exact HZZ.out
      refine AllReadyIn.cons rfl (fun K hK => ?_) AllReadyIn.nil
      go_simp
      refine hK _ _ ?_
      clear hK K
      refine wpAnyIn_ready (rs := [1]) (by kernel_rfl) (by simp) ?_
      refine AllReadyIn.cons rfl (fun K hK => ?_) AllReadyIn.nil
      go_simp
      refine hK _ _ ?_
      clear hK K
      refine wpAnyIn_ready (rs := [3]) (by kernel_rfl) (by simp) ?_
      refine AllReadyIn.cons rfl (fun K hK => ?_) AllReadyIn.nil
      go_simp
      refine hK _ _ ?_
      clear hK K
      refine wpAnyIn_ready (rs := [4]) (by kernel_rfl) (by simp) ?_
      refine AllReadyIn.cons rfl (fun K hK => ?_) AllReadyIn.nil
      go_simp
      refine hK _ _ ?_
      clear hK K
      refine wpAnyIn_ready (rs := [5]) (by kernel_rfl) (by simp) ?_
      refine AllReadyIn.cons rfl (fun K hK => ?_) AllReadyIn.nil
      refine rn.step_append_in rfl (.tmp 15) (.tmp 19) 33 rfl V.heap.size 9 i0 zeroS 1 16 Try.underlying33 hi hz0 hz1 hz2 rfl (by decide) v k _ rfl HOD.out ⟨U.heap.size, 0, none⟩ 1 1 [.string (s.extract 0 u)] rfl rfl HNW.out (oneS _) (by unfold maxLen; omega) (by omega) HSZ.out ?_
      intro v1 w1 hown1 hgrow1
      obtain ⟨g1, cap1, rfl⟩ := ownsRow_succ hown1
      have hD := AFT.out _ _ hown1 hgrow1
      clear hown1 hgrow1
      have b1 := hD.1.cell
      have f1 := hD.1.frozen
      refine hK _ _ ?_
      clear hK K
      refine wpAnyIn_ready (rs := [6]) (by kernel_rfl) (by simp) ?_
      refine AllReadyIn.cons rfl (fun K hK => ?_) AllReadyIn.nil
      go_simp
      refine hK _ _ ?_
      clear hK K
      refine wpAnyIn_done (by kernel_rfl) ?_ _
      obtain ⟨-, z1, z2, z3, z4, z5, z6, z7⟩ := hD
      obtain ⟨Z, hZ⟩ : ∃ Z, Z = w1.setCell ⟨B1, 0, none⟩ (.slice (some ⟨g1, 0, none⟩) (k + 1) cap1) := ⟨_, rfl⟩
      rw [← hZ] at z1 z2 z3 z4 z5 z6 z7 ⊢
      have c2 := z1.cell
      have f2 := z1.frozen
      have HZZ := Lib.hid (FIN.out Z _ z1 z2 z3 z4 z5 z6 z7)
      clear z1 z2 z3 z4 z5 z6 z7 hZ
      gi_wp2_with fail
      exact HZZ.out
    refine AllReadyIn.cons rfl (fun K hK => ?_) ?_
    · go_simp
      refine hK _ _ ?_
      clear hK K
      refine wpAnyIn_ready (rs := [0, 2]) (by kernel_rfl) (by simp) ?_
      refine AllReadyIn.cons rfl (fun K hK => ?_) ?_
      · go_simp
        refine hK _ _ ?_
        clear hK K
        refine wpAnyIn_ready (rs := [2]) (by kernel_rfl) (by simp) ?_
        refine AllReadyIn.cons rfl (fun K hK => ?_) AllReadyIn.nil
        go_simp
        refine hK _ _ ?_
        clear hK K
        refine wpAnyIn_ready (rs := [3]) (by kernel_rfl) (by simp) ?_
        refine AllReadyIn.cons rfl (fun K hK => ?_) AllReadyIn.nil
        go_simp
        refine hK _ _ ?_
        clear hK K
        refine wpAnyIn_ready (rs := [4]) (by kernel_rfl) (by simp) ?_
        refine AllReadyIn.cons rfl (fun K hK => ?_) AllReadyIn.nil
        go_simp
        refine hK _ _ ?_
        clear hK K
        refine wpAnyIn_ready (rs := [5]) (by kernel_rfl) (by simp) ?_
        refine AllReadyIn.cons rfl (fun K hK => ?_) AllReadyIn.nil
        refine rn.step_append_in rfl (.tmp 15) (.tmp 19) 33 rfl V.heap.size 9 i0 zeroS 1 16 Try.underlying33 hi hz0 hz1 hz2 rfl (by decide) v k _ rfl HOD.out ⟨U.heap.size, 0, none⟩ 1 1 [.string (s.extract 0 u)] rfl rfl HNW.out (oneS _) (by unfold maxLen; omega) (by omega) HSZ.out ?_
        intro v1 w1 hown1 hgrow1
        obtain ⟨g1, cap1, rfl⟩ := ownsRow_succ hown1
        have hD := AFT.out _ _ hown1 hgrow1
        clear hown1 hgrow1
        have b1 := hD.1.cell
        have f1 := hD.1.frozen
        refine hK _ _ ?_
        clear hK K
        refine wpAnyIn_ready (rs := [6]) (by kernel_rfl) (by simp) ?_
        refine AllReadyIn.cons rfl (fun K hK => ?_) AllReadyIn.nil
        go_simp
        refine hK _ _ ?_
        clear hK K
        refine wpAnyIn_done (by kernel_rfl) ?_ _
        obtain ⟨-, z1, z2, z3, z4, z5, z6, z7⟩ := hD
        obtain ⟨Z, hZ⟩ : ∃ Z, Z = w1.setCell ⟨B1, 0, none⟩ (.slice (some ⟨g1, 0, none⟩) (k + 1) cap1) := ⟨_, rfl⟩
        rw [← hZ] at z1 z2 z3 z4 z5 z6 z7 ⊢
        have c2 := z1.cell
        have f2 := z1.frozen
        have HZZ := Lib.hid (FIN.out Z _ z1 z2 z3 z4 z5 z6 z7)
        clear z1 z2 z3 z4 z5 z6 z7 hZ
        gi_wp2_with fail
        exact HZZ.out
      refine AllReadyIn.cons rfl (fun K hK => ?_) AllReadyIn.nil
      go_simp
      refine hK _ _ ?_
      clear hK K
      refine wpAnyIn_ready (rs := [0, 3]) (by kernel_rfl) (by simp) ?_
      refine AllReadyIn.cons rfl (fun K hK => ?_) ?_
      · go_simp
        refine hK _ _ ?_
        clear hK K
        refine wpAnyIn_ready (rs := [3]) (by kernel_rfl) (by simp) ?_
        refine AllReadyIn.cons rfl (fun K hK => ?_) AllReadyIn.nil
        go_simp
        refine hK _ _ ?_
        clear hK K
        refine wpAnyIn_ready (rs := [4]) (by kernel_rfl) (by simp) ?_
        refine AllReadyIn.cons rfl (fun K hK => ?_) AllReadyIn.nil
        go_simp
        refine hK _ _ ?_
        clear hK K
        refine wpAnyIn_ready (rs := [5]) (by kernel_rfl) (by simp) ?_
        refine AllReadyIn.cons rfl (fun K hK => ?_) AllReadyIn.nil
        refine rn.step_append_in rfl (.tmp 15) (.tmp 19) 33 rfl V.heap.size 9 i0 zeroS 1 16 Try.underlying33 hi hz0 hz1 hz2 rfl (by decide) v k _ rfl HOD.out ⟨U.heap.size, 0, none⟩ 1 1 [.string (s.extract 0 u)] rfl rfl HNW.out (oneS _) (by unfold maxLen; omega) (by omega) HSZ.out ?_
        intro v1 w1 hown1 hgrow1
        obtain ⟨g1, cap1, rfl⟩ := ownsRow_succ hown1
        have hD := AFT.out _ _ hown1 hgrow1
        clear hown1 hgrow1
        have b1 := hD.1.cell
        have f1 := hD.1.frozen
        refine hK _ _ ?_
        clear hK K
        refine wpAnyIn_ready (rs := [6]) (by kernel_rfl) (by simp) ?_
        refine AllReadyIn.cons rfl (fun K hK => ?_) AllReadyIn.nil
        go_simp
        refine hK _ _ ?_
        clear hK K
        refine wpAnyIn_done (by kernel_rfl) ?_ _
        obtain ⟨-, z1, z2, z3, z4, z5, z6, z7⟩ := hD
        obtain ⟨Z, hZ⟩ : ∃ Z, Z = w1.setCell ⟨B1, 0, none⟩ (.slice (some ⟨g1, 0, none⟩) (k + 1) cap1) := ⟨_, rfl⟩
        rw [← hZ] at z1 z2 z3 z4 z5 z6 z7 ⊢
        have c2 := z1.cell
        have f2 := z1.frozen
        have HZZ := Lib.hid (FIN.out Z _ z1 z2 z3 z4 z5 z6 z7)
        clear z1 z2 z3 z4 z5 z6 z7 hZ
        gi_wp2_with fail
        exact HZZ.out
      refine AllReadyIn.cons rfl (fun K hK => ?_) AllReadyIn.nil
      go_simp
      refine hK _ _ ?_
      clear hK K
      refine wpAnyIn_ready (rs := [0, 4]) (by kernel_rfl) (by simp) ?_
      refine AllReadyIn.cons rfl (fun K hK => ?_) ?_
      · go_simp
        refine hK _ _ ?_
        clear hK K
        refine wpAnyIn_ready (rs := [4]) (by kernel_rfl) (by simp) ?_
        refine AllReadyIn.cons rfl (fun K hK => ?_) AllReadyIn.nil
        go_simp
        refine hK _ _ ?_
        clear hK K
        refine wpAnyIn_ready (rs := [5]) (by kernel_rfl) (by simp) ?_
        refine AllReadyIn.cons rfl (fun K hK => ?_) AllReadyIn.nil
        refine rn.step_append_in rfl (.tmp 15) (.tmp 19) 33 rfl V.heap.size 9 i0 zeroS 1 16 Try.underlying33 hi hz0 hz1 hz2 rfl (by decide) v k _ rfl HOD.out ⟨U.heap.size, 0, none⟩ 1 1 [.string (s.extract 0 u)] rfl rfl HNW.out (oneS _) (by unfold maxLen; omega) (by omega) HSZ.out ?_
        intro v1 w1 hown1 hgrow1
        obtain ⟨g1, cap1, rfl⟩ := ownsRow_succ hown1
        have hD := AFT.out _ _ hown1 hgrow1
        clear hown1 hgrow1
        have b1 := hD.1.cell
        have f1 := hD.1.frozen
        refine hK _ _ ?_
        clear hK K
        refine wpAnyIn_ready (rs := [6]) (by kernel_rfl) (by simp) ?_
        refine AllReadyIn.cons rfl (fun K hK => ?_) AllReadyIn.nil
        go_simp
        refine hK _ _ ?_
        clear hK K
        refine wpAnyIn_done (by kernel_rfl) ?_ _
        obtain ⟨-, z1, z2, z3, z4, z5, z6, z7⟩ := hD
        obtain ⟨Z, hZ⟩ : ∃ Z, Z = w1.setCell ⟨B1, 0, none⟩ (.slice (some ⟨g1, 0, none⟩) (k + 1) cap1) := ⟨_, rfl⟩
        rw [← hZ] at z1 z2 z3 z4 z5 z6 z7 ⊢
        have c2 := z1.cell
        have f2 := z1.frozen
        have HZZ := Lib.hid (FIN.out Z _ z1 z2 z3 z4 z5 z6 z7)
        clear z1 z2 z3 z4 z5 z6 z7 hZ
        gi_wp2_with fail
        exact HZZ.out
      refine AllReadyIn.cons rfl (fun K hK => ?_) AllReadyIn.nil
      go_simp
      refine hK _ _ ?_
      clear hK K
      refine wpAnyIn_ready (rs := [0]) (by kernel_rfl) (by simp) ?_
      refine AllReadyIn.cons rfl (fun K hK => ?_) AllReadyIn.nil
      go_simp
      refine hK _ _ ?_
      clear hK K
      refine wpAnyIn_ready (rs := [5]) (by kernel_rfl) (by simp) ?_
      refine AllReadyIn.cons rfl (fun K hK => ?_) AllReadyIn.nil
      refine rn.step_append_in rfl (.tmp 15) (.tmp 19) 33 rfl V.heap.size 9 i0 zeroS 1 16 Try.underlying33 hi hz0 hz1 hz2 rfl (by decide) v k _ rfl HOD.out ⟨U.heap.size, 0, none⟩ 1 1 [.string (s.extract 0 u)] rfl rfl HNW.out (oneS _) (by unfold maxLen; omega) (by omega) HSZ.out ?_
      intro v1 w1 hown1 hgrow1
      obtain ⟨g1, cap1, rfl⟩ := ownsRow_succ hown1
      have hD := AFT.out _ _ hown1 hgrow1
      clear hown1 hgrow1
      have b1 := hD.1.cell
      have f1 := hD.1.frozen
      refine hK _ _ ?_
      clear hK K
      refine wpAnyIn_ready (rs := [6]) (by kernel_rfl) (by simp) ?_
      refine AllReadyIn.cons rfl (fun K hK => ?_) AllReadyIn.nil
      go_simp
      refine hK _ _ ?_
      clear hK K
      refine wpAnyIn_done (by kernel_rfl) ?_ _
      obtain ⟨-, z1, z2, z3, z4, z5, z6, z7⟩ := hD
      obtain ⟨Z, hZ⟩ : ∃ Z, Z = w1.setCell ⟨B1, 0, none⟩ (.slice (some ⟨g1, 0, none⟩) (k + 1) cap1) := ⟨_, rfl⟩
      rw [← hZ] at z1 z2 z3 z4 z5 z6 z7 ⊢
      have c2 := z1.cell
      have f2 := z1.frozen
      have HZZ := Lib.hid (FIN.out Z _ z1 z2 z3 z4 z5 z6 z7)
      clear z1 z2 z3 z4 z5 z6 z7 hZ
      gi_wp2_with fail
      exact HZZ.out
    refine AllReadyIn.cons rfl (fun K hK => ?_) AllReadyIn.nil
    go_simp
    refine hK _ _ ?_
    clear hK K
    refine wpAnyIn_ready (rs := [0, 1]) (by kernel_rfl) (by simp) ?_
    refine AllReadyIn.cons rfl (fun K hK => ?_) ?_
    · go_simp
      refine hK _ _ ?_
      clear hK K
      refine wpAnyIn_ready (rs := [1]) (by kernel_rfl) (by simp) ?_
      refine AllReadyIn.cons rfl (fun K hK => ?_) AllReadyIn.nil
      go_simp
      refine hK _ _ ?_
      clear hK K
      refine wpAnyIn_ready (rs := [3]) (by kernel_rfl) (by simp) ?_
      refine AllReadyIn.cons rfl (fun K hK => ?_) AllReadyIn.nil
      go_simp
      refine hK _ _ ?_
      clear hK K
      refine wpAnyIn_ready (rs := [4]) (by kernel_rfl) (by simp) ?_
      refine AllReadyIn.cons rfl (fun K hK => ?_) AllReadyIn.nil
      go_simp
      refine hK _ _ ?_
      clear hK K
      refine wpAnyIn_ready (rs := [5]) (by kernel_rfl) (by simp) ?_
      refine AllReadyIn.cons rfl (fun K hK => ?_) AllReadyIn.nil
      refine rn.step_append_in rfl (.tmp 15) (.tmp 19) 33 rfl V.heap.size 9 i0 zeroS 1 16 Try.underlying33 hi hz0 hz1 hz2 rfl (by decide) v k _ rfl HOD.out ⟨U.heap.size, 0, none⟩ 1 1 [.string (s.extract 0 u)] rfl rfl HNW.out (oneS _) (by unfold maxLen; omega) (by omega) HSZ.out ?_
      intro v1 w1 hown1 hgrow1
      obtain ⟨g1, cap1, rfl⟩ := ownsRow_succ hown1
      have hD := AFT.out _ _ hown1 hgrow1
      clear hown1 hgrow1
      have b1 := hD.1.cell
      have f1 := hD.1.frozen
      refine hK _ _ ?_
      clear hK K
      refine wpAnyIn_ready (rs := [6]) (by kernel_rfl) (by simp) ?_
      refine AllReadyIn.cons rfl (fun K hK => ?_) AllReadyIn.nil
      go_simp
      refine hK _ _ ?_
      clear hK K
      refine wpAnyIn_done (by kernel_rfl) ?_ _
      obtain ⟨-, z1, z2, z3, z4, z5, z6, z7⟩ := hD
      obtain ⟨Z, hZ⟩ : ∃ Z, Z = w1.setCell ⟨B1, 0, none⟩ (.slice (some ⟨g1, 0, none⟩) (k + 1) cap1) := ⟨_, rfl⟩
      rw [← hZ] at z1 z2 z3 z4 z5 z6 z7 ⊢
      have c2 := z1.cell
      have f2 := z1.frozen
      have HZZ := Lib.hid (FIN.out Z _ z1 z2 z3 z4 z5 z6 z7)
      clear z1 z2 z3 z4 z5 z6 z7 hZ
      gi_wp2_with fail
      exact HZZ.out
    refine AllReadyIn.cons rfl (fun K hK => ?_) AllReadyIn.nil
    go_simp
    refine hK _ _ ?_
    clear hK K
    refine wpAnyIn_ready (rs := [0, 3]) (by kernel_rfl) (by simp) ?_
    refine AllReadyIn.cons rfl (fun K hK => ?_) ?_
    · go_simp
      refine hK _ _ ?_
      clear hK K
      refine wpAnyIn_ready (rs := [3]) (by kernel_rfl) (by simp) ?_
      refine AllReadyIn.cons rfl (fun K hK => ?_) AllReadyIn.nil
      go_simp
      refine hK _ _ ?_
      clear hK K
      refine wpAnyIn_ready (rs := [4]) (by kernel_rfl) (by simp) ?_
      refine AllReadyIn.cons rfl (fun K hK => ?_) AllReadyIn.nil
      go_simp
      refine hK _ _ ?_
      clear hK K
      refine wpAnyIn_ready (rs := [5]) (by kernel_rfl) (by simp) ?_
      refine AllReadyIn.cons rfl (fun K hK => ?_) AllReadyIn.nil
      refine rn.step_append_in rfl (.tmp 15) (.tmp 19) 33 rfl V.heap.size 9 i0 zeroS 1 16 Try.underlying33 hi hz0 hz1 hz2 rfl (by decide) v k _ rfl HOD.out ⟨U.heap.size, 0, none⟩ 1 1 [.string (s.extract 0 u)] rfl rfl HNW.out (oneS _) (by unfold maxLen; omega) (by omega) HSZ.out ?_
      intro v1 w1 hown1 hgrow1
      obtain ⟨g1, cap1, rfl⟩ := ownsRow_succ hown1
      have hD := AFT.out _ _ hown1 hgrow1
      clear hown1 hgrow1
      have b1 := hD.1.cell
      have f1 := hD.1.frozen
      refine hK _ _ ?_
      clear hK K
      refine wpAnyIn_ready (rs := [6]) (by kernel_rfl) (by simp) ?_
      refine AllReadyIn.cons rfl (fun K hK => ?_) AllReadyIn.nil
      go_simp
      refine hK _ _ ?_
      clear hK K
      refine wpAnyIn_done (by kernel_rfl) ?_ _
      obtain ⟨-, z1, z2, z3, z4, z5, z6, z7⟩ := hD
      obtain ⟨Z, hZ⟩ : ∃ Z, Z = w1.setCell ⟨B1, 0, none⟩ (.slice (some ⟨g1, 0, none⟩) (k + 1) cap1) := ⟨_, rfl⟩
      rw [← hZ] at z1 z2 z3 z4 z5 z6 z7 ⊢
      have c2 := z1.cell
      have f2 := z1.frozen
      have HZZ := Lib.hid (FIN.out Z _ z1 z2 z3 z4 z5 z6 z7)
      clear z1 z2 z3 z4 z5 z6 z7 hZ
      gi_wp2_with fail
      exact HZZ.out
    refine AllReadyIn.cons rfl (fun K hK => ?_) AllReadyIn.nil
    go_simp
    refine hK _ _ ?_
    clear hK K
    refine wpAnyIn_ready (rs := [0, 4]) (by kernel_rfl) (by simp) ?_
    refine AllReadyIn.cons rfl (fun K hK => ?_) ?_
    · go_simp
      refine hK _ _ ?_
      clear hK K
      refine wpAnyIn_ready (rs := [4]) (by kernel_rfl) (by simp) ?_
      refine AllReadyIn.cons rfl (fun K hK => ?_) AllReadyIn.nil
      go_simp
      refine hK _ _ ?_
      clear hK K
      refine wpAnyIn_ready (rs := [5]) (by kernel_rfl) (by simp) ?_
      refine AllReadyIn.cons rfl (fun K hK => ?_) AllReadyIn.nil
      refine rn.step_append_in rfl (.tmp 15) (.tmp 19) 33 rfl V.heap.size 9 i0 zeroS 1 16 Try.underlying33 hi hz0 hz1 hz2 rfl (by decide) v k _ rfl HOD.out ⟨U.heap.size, 0, none⟩ 1 1 [.string (s.extract 0 u)] rfl rfl HNW.out (oneS _) (by unfold maxLen; omega) (by omega) HSZ.out ?_
      intro v1 w1 hown1 hgrow1
      obtain ⟨g1, cap1, rfl⟩ := ownsRow_succ hown1
      have hD := AFT.out _ _ hown1 hgrow1
      clear hown1 hgrow1
      have b1 := hD.1.cell
      have f1 := hD.1.frozen
      refine hK _ _ ?_
      clear hK K
      refine wpAnyIn_ready (rs := [6]) (by kernel_rfl) (by simp) ?_
      refine AllReadyIn.cons rfl (fun K hK => ?_) AllReadyIn.nil
      go_simp
      refine hK _ _ ?_
      clear hK K
      refine wpAnyIn_done (by kernel_rfl) ?_ _
      obtain ⟨-, z1, z2, z3, z4, z5, z6, z7⟩ := hD
      obtain ⟨Z, hZ⟩ : ∃ Z, Z = w1.setCell ⟨B1, 0, none⟩ (.slice (some ⟨g1, 0, none⟩) (k + 1) cap1) := ⟨_, rfl⟩
      rw [← hZ] at z1 z2 z3 z4 z5 z6 z7 ⊢
      have c2 := z1.cell
      have f2 := z1.frozen
      have HZZ := Lib.hid (FIN.out Z _ z1 z2 z3 z4 z5 z6 z7)
      clear z1 z2 z3 z4 z5 z6 z7 hZ
      gi_wp2_with fail
      exact HZZ.out
    refine AllReadyIn.cons rfl (fun K hK => ?_) AllReadyIn.nil
    go_simp
    refine hK _ _ ?_
    clear hK K
    refine wpAnyIn_ready (rs := [0]) (by kernel_rfl) (by simp) ?_
    refine AllReadyIn.cons rfl (fun K hK => ?_) AllReadyIn.nil
    go_simp
    refine hK _ _ ?_
    clear hK K
    refine wpAnyIn_ready (rs := [5]) (by kernel_rfl) (by simp) ?_
    refine AllReadyIn.cons rfl (fun K hK => ?_) AllReadyIn.nil
    refine rn.step_append_in rfl (.tmp 15) (.tmp 19) 33 rfl V.heap.size 9 i0 zeroS 1 16 Try.underlying33 hi hz0 hz1 hz2 rfl (by decide) v k _ rfl HOD.out ⟨U.heap.size, 0, none⟩ 1 1 [.string (s.extract 0 u)] rfl rfl HNW.out (oneS _) (by unfold maxLen; omega) (by omega) HSZ.out ?_
    intro v1 w1 hown1 hgrow1
    obtain ⟨g1, cap1, rfl⟩ := ownsRow_succ hown1
    have hD := AFT.out _ _ hown1 hgrow1
    clear hown1 hgrow1
    have b1 := hD.1.cell
    have f1 := hD.1.frozen
    refine hK _ _ ?_
    clear hK K
    refine wpAnyIn_ready (rs := [6]) (by kernel_rfl) (by simp) ?_
    refine AllReadyIn.cons rfl (fun K hK => ?_) AllReadyIn.nil
    go_simp
    refine hK _ _ ?_
    clear hK K
    refine wpAnyIn_done (by kernel_rfl) ?_ _
    obtain ⟨-, z1, z2, z3, z4, z5, z6, z7⟩ := hD
    obtain ⟨Z, hZ⟩ : ∃ Z, Z = w1.setCell ⟨B1, 0, none⟩ (.slice (some ⟨g1, 0, none⟩) (k + 1) cap1) := ⟨_, rfl⟩
    rw [← hZ] at z1 z2 z3 z4 z5 z6 z7 ⊢
    have c2 := z1.cell
    have f2 := z1.frozen
    have HZZ := Lib.hid (FIN.out Z _ z1 z2 z3 z4 z5 z6 z7)
    clear z1 z2 z3 z4 z5 z6 z7 hZ
    gi_wp2_with fail
    exact HZZ.out
    -- END
  case done =>
    rintro D W hD ⟨⟨o, hb2, -⟩, hb0, ⟨v, hb1, hrow, -⟩, hB, hVW⟩ hK
    have c1 := hb1.cell
    obtain ⟨A, cap, rfl, hown⟩ := OwnS.shape (alT_length _ _).symm rfl (own_base hrow HBS.out.2.2.2.2.2.2.2.2.2)
    have HR := Lib.hid (own_base hrow HBS.out.2.2.2.2.2.2.2.2.2)
    have HBB := Lib.hid hB
    have hD2 : w.heap.size ≤ D := Nat.le_trans HBS.out.2.2.2.2.2.2.2.2.2 hD
    clear hb2 hb0 hb1 hrow hown hB hVW hN
    gi_wp2
    refine ⟨by simp, .inl ⟨_, _, rfl, run_takeDeferred hK, ?_⟩⟩
    refine ⟨_, results_tmp rfl _ _ _, A, cap, rfl, ?_, rn.fr_of_below (HBB.out.trans (belowK_b (w := w) (Nat.le_refl _) _ D _ _ hD2 hK rfl rfl))⟩
    have h := ownsRow_putObj HR.out (.deferred none) hK rfl
    unfold OwnS
    rw [alT_length] at h ⊢
    exact h
  case stop =>
    rintro D k W _ _ h _
    exact h.elim
end Go.Proofs.Ytldlonkaedjdpaa.pt
