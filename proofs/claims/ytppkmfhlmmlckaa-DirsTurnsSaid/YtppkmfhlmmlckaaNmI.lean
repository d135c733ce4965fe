/-
  The document's Add, of no names and no address.
-/
import Derived.Test.YtppkmfhlmmlckaaNmG
namespace Go.Proofs.Ytppkmfhlmmlckaa.nm
set_option maxRecDepth 100000
open Go.RowKit Go.Maps
set_option maxRecDepth 100000

/-- An append of a nil slice, at a step of a region that draws. -/
theorem step_append_none {P : Program} {w : World} {ops : Array Oper} {o : Oper} {a : Act} {K : Act → World → Prop} {Q : Exit → Act → World → Prop} {E : Prop} (hgd : o.guard = none) (s x : Operand) (t : TypeId)
    (ho : o.op = .call { callee := .builtin .append, args := #[s, x], argTypes := #[t, t] })
    (base : Nat) (e : TypeId) (i : TypeInfo) (size : Nat) (ht : P.underlying t = some (.slice e)) (hi : P.info? e = some i)
    (v : Value) (n : Nat) (xs : List Value) (hs : a.eval s = v) (hown : w.ownsRow base e size v n xs) (hx : a.eval x = .slice none 0 0)
    (h : K (a.put o.dst v) w) : if Region.wanted o (yielded ops a.tmps) = true then Oper.wp P o a w K Q else E := by
  have hw : Region.wanted o (yielded ops a.tmps) = true := by simp [Region.wanted, hgd]
  rw [if_pos hw]
  have hrun := run_append_owned_none (P := P) (w := w) base t o.type e i size ht hi v n xs hown
  unfold Oper.wp
  simp only [execOp, ho, resolve, invoke, builtin, Sem.run_bind, Sem.run_pure, Result.andThen_ok, List.map_toArray, List.map_cons, List.map_nil, hs, hx, hrun]
  exact h

set_option maxHeartbeats 4000000 in
theorem radd_none (w : World) (s : ByteArray) (num : Int) (hs : s.size ≤ maxLen) :
    Calls Try.prog 22 #[.slice none 0 0, .string s, .int .i64 num] w (AnsN w (addZ [] s num) (insL [] s num)) := by
  have HLK := Lib.hid (rlook w none 0 [] s (RdN.nil _ _ _) (by simp) hs)
  have HIN := Lib.hid (rinode w num)
  obtain ⟨r0, h0⟩ : ∃ r0, r0 = (lookR [] s).1 := ⟨_, rfl⟩
  obtain ⟨r1, h1⟩ : ∃ r1, r1 = (lookR [] s).2 := ⟨_, rfl⟩
  rw [← h0, ← h1] at HLK
  obtain ⟨z, hz⟩ : ∃ z, z = addZ [] s num := ⟨_, rfl⟩
  have HZ := Lib.hid (show z = if r1 = 71 then 71 else if inB num = false then 2 else if r1 = 0 then 6 else 0 by rw [hz, h1]; rfl)
  rw [← hz]
  clear h0 h1 hz
  by_cases h71 : r1 = 71
  · subst h71
    have HZ2 := Lib.hid (HZ.out.trans (if_pos rfl))
    go_enter Try.func22, Try.ntmps22
    go_wp2_with fail
    refine HLK.out.mono ?_
    rintro e w' ⟨rfl, rfl⟩
    go_wp2_with fail
    go_ret2
    exact Or.inr ⟨by rw [HZ2.out]; simp, by rw [HZ2.out]; rfl, rfl⟩
  have HZ1 := Lib.hid (HZ.out.trans (if_neg h71))
  have h71b : (r1 == 71) = false := by simpa using h71
  clear h71
  cases hin : inB num with
  | false =>
    rw [hin] at HIN HZ1
    have HZ2 := Lib.hid (HZ1.out.trans (if_pos rfl))
    clear hin
    go_enter Try.func22, Try.ntmps22
    go_wp2_with fail
    refine HLK.out.mono ?_
    rintro e w' ⟨rfl, rfl⟩
    go_wp2_with fail
    refine HIN.out.mono ?_
    rintro e w' ⟨rfl, rfl⟩
    go_wp2_with fail
    go_ret2
    exact Or.inr ⟨by rw [HZ2.out]; simp, by rw [HZ2.out]; rfl, rfl⟩
  | true =>
    rw [hin] at HIN HZ1
    have HZ2 := Lib.hid (HZ1.out.trans (if_neg (by simp)))
    clear hin
    by_cases h0 : r1 = 0
    · subst h0
      have HZ3 := Lib.hid (HZ2.out.trans (if_pos rfl))
      clear h71b
      go_enter Try.func22, Try.ntmps22
      go_wp2_with fail
      refine HLK.out.mono ?_
      rintro e w' ⟨rfl, rfl⟩
      go_wp2_with fail
      refine HIN.out.mono ?_
      rintro e w' ⟨rfl, rfl⟩
      go_wp2_with fail
      go_ret2
      exact Or.inr ⟨by rw [HZ3.out]; simp, by rw [HZ3.out]; rfl, rfl⟩
    have HZ3 := Lib.hid (HZ2.out.trans (if_neg h0))
    have h0b : (r1 == 0) = false := by simpa using h0
    clear h0
    have HZ4 := HZ3
    go_enter Try.func22, Try.ntmps22
    go_wp2_with fail
    refine HLK.out.mono ?_
    rintro e w' ⟨rfl, rfl⟩
    go_wp2_with fail
    refine HIN.out.mono ?_
    rintro e w' ⟨rfl, rfl⟩
    go_wp2_with fail
    clear h71b h0b
    go_loop [10] (fun i => i = .int .i64 0) (fun i => 0 - (intOf i).toNat)
    case atStart => exact rfl
    case round =>
      obtain rfl := hrel
      obtain ⟨i0, hi, hz0, hz1, hz2⟩ := info_parts infoN
      have HI := Lib.hid (⟨hi, hz0, hz1, hz2⟩ : _ ∧ _ ∧ _ ∧ _)
      clear hi hz0 hz1 hz2
      have HFa := Lib.hid (((Fr.refl (fun _ => False) w).alloc objE).drew)
      have HOa := Lib.hid (show OwnN (w.alloc objE).drew w.heap.size (.slice (some ⟨w.heap.size, 0, none⟩) 0 0) [] from (ownN_made w).kept ((Fr.refl _ _).drew))
      have HFb := Lib.hid ((((Fr.refl (fun _ => False) w).alloc objE).drew).alloc (objX s num))
      have HOb := Lib.hid (HOa.out.kept ((Fr.refl (fun _ => False) _).alloc (objX s num)))
      have HXb := Lib.hid (show ((w.alloc objE).drew.alloc (objX s num)).heap[w.heap.size + 1]? = some (.cells #[.string s, .int .i64 num] 41 (0, 0)) by rw [← World.size_alloc w objE]; exact heap_alloc_new _ _)
      have HFc := Lib.hid ((((Fr.refl (fun _ => False) w).drew).alloc (objX s num)).alloc objE)
      have HOc := Lib.hid (show OwnN ((w.drew.alloc (objX s num)).alloc objE) w.heap.size (.slice (some ⟨w.heap.size + 1, 0, none⟩) 0 0) [] from ⟨rfl, Or.inr ⟨w.heap.size + 1, 0, #[], rfl, by omega, by rw [show w.heap.size + 1 = (w.drew.alloc (objX s num)).heap.size from (World.size_alloc _ _).symm]; exact heap_alloc_new _ _, Nat.le_refl _, by unfold maxLen; omega, rfl, rfl⟩⟩)
      have HXc := Lib.hid (fr_keep (heap_alloc_new w.drew (objX s num)) ((Fr.refl (fun _ => False) _).alloc objE))
      go_wp2_with fail
      go_region_law
        (first
          | (refine step_append_none (by rfl) (.tmp 43) (.tmp 46) 23 (by rfl) w.heap.size 41 i0 2 Try.underlying23 HI.out.1 _ 0 [] (by rfl) HOa.out (by rfl) ?_)
          | (refine step_append_none (by rfl) (.tmp 43) (.tmp 46) 23 (by rfl) w.heap.size 41 i0 2 Try.underlying23 HI.out.1 _ 0 [] (by rfl) HOb.out (by rfl) ?_)
          | (refine step_append_none (by rfl) (.tmp 43) (.tmp 46) 23 (by rfl) w.heap.size 41 i0 2 Try.underlying23 HI.out.1 _ 0 [] (by rfl) HOc.out (by rfl) ?_)
          | (refine step_append_any (by rfl) (.tmp 47) (.tmp 51) 23 (by rfl) w.heap.size 41 i0 zeroN 2 24 Try.underlying23 HI.out.1 HI.out.2.1 HI.out.2.2.1 HI.out.2.2.2 rfl (by omega) _ 0 [] (by rfl) HOb.out ⟨w.heap.size + 1, 0, none⟩ 1 1 [.string s, .int .i64 num] (by rfl) (by rfl) (newsX _ HXb.out) (oneX _ _) (by unfold maxLen; omega) (by omega) HFb.out.size ?_; intro v2 w2 hown2 hg2; have H2 := Lib.hid (⟨hown2, HFb.out.grown hg2 (fun q e => own_ge HOb.out e)⟩ : _ ∧ _); clear hown2 hg2)
          | (refine step_append_any (by rfl) (.tmp 47) (.tmp 51) 23 (by rfl) w.heap.size 41 i0 zeroN 2 24 Try.underlying23 HI.out.1 HI.out.2.1 HI.out.2.2.1 HI.out.2.2.2 rfl (by omega) _ 0 [] (by rfl) HOc.out ⟨w.heap.size, 0, none⟩ 1 1 [.string s, .int .i64 num] (by rfl) (by rfl) (newsX _ HXc.out) (oneX _ _) (by unfold maxLen; omega) (by omega) HFc.out.size ?_; intro v2 w2 hown2 hg2; have H2 := Lib.hid (⟨hown2, HFc.out.grown hg2 (fun q e => own_ge HOc.out e)⟩ : _ ∧ _); clear hown2 hg2)
          | (refine step_append_none (by rfl) (.tmp 52) (.tmp 55) 23 (by rfl) w.heap.size 41 i0 2 Try.underlying23 HI.out.1 _ (0 + 1) ([] ++ [.string s, .int .i64 num]) (by rfl) H2.out.1 (by rfl) ?_))
      all_goals
        go_wp2
        go_ret2
        exact Or.inl ⟨HZ4.out, (ans_ins (l := []) (k := 0) (m := 0) rfl rfl rfl H2.out.1 H2.out.2).2⟩
end Go.Proofs.Ytppkmfhlmmlckaa.nm
