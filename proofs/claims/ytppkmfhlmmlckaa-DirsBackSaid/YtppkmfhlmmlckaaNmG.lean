/-
  The document's Add.
-/
import Derived.Test.YtppkmfhlmmlckaaNmF
namespace Go.Proofs.Ytppkmfhlmmlckaa.nm
set_option maxRecDepth 100000
open Go.RowKit Go.Maps
set_option maxRecDepth 100000

/-- Is a text no greater? -/
def leS (a b : ByteArray) : Bool := Op.bytesLess a.toList b.toList || (a.toList == b.toList)
/-- Where the first greater name is. -/
def firstG : List Nm → ByteArray → Nat
  | [], _ => 0
  | x :: r, s => if leS x.1 s = true then firstG r s + 1 else 0
def LeTo (l : List Nm) (s : ByteArray) (k : Nat) : Prop := ∀ j x, j < k → l[j]? = some x → leS x.1 s = true
theorem LeTo.zero (l : List Nm) (s : ByteArray) : LeTo l s 0 := fun j x h => by omega
theorem LeTo.next {l : List Nm} {s : ByteArray} {k : Nat} {x : Nm} (h : LeTo l s k) (hx : l[k]? = some x) (hn : leS x.1 s = true) : LeTo l s (k + 1) := fun j z hj hz => by
  by_cases e : j = k
  · subst e
    rw [hx] at hz
    cases hz
    exact hn
  · exact h j z (by omega) hz
theorem firstG_at : ∀ (l : List Nm) (s : ByteArray) (k : Nat), k ≤ l.length → LeTo l s k → (∀ x, l[k]? = some x → leS x.1 s = false) → firstG l s = k
  | [], _, k, h, _, _ => by
    obtain rfl : k = 0 := by simpa using h
    rfl
  | y :: r, s, 0, _, _, h => by
    rw [firstG, if_neg (by rw [h y rfl]; simp)]
  | y :: r, s, k + 1, hk, hn, h => by
    rw [firstG, if_pos (hn 0 y (by omega) rfl), firstG_at r s k (by simpa using hk) (fun j z hj hz => hn (j + 1) z (by omega) (by simpa using hz)) (fun x hx => h x (by simpa using hx))]
/-- The names with one more ahead of the first greater one. -/
def insL (l : List Nm) (s : ByteArray) (n : Int) : List Nm := l.take (firstG l s) ++ [(s, n)] ++ l.drop (firstG l s)
/-- What Add answers. -/
def addZ (l : List Nm) (s : ByteArray) (n : Int) : Int :=
  if (lookR l s).2 = 71 then 71 else if inB n = false then 2 else if (lookR l s).2 = 0 then 6 else if 256 ≤ l.length then 4 else 0
theorem ans_ins {w w' : World} {l : List Nm} {s : ByteArray} {n : Int} {k m : Nat} {v : Value} (ht : (l.take k).length = k) (hd : (l.drop k).length = m) (hf : firstG l s = k) (ho : w'.ownsRow w.heap.size 41 2 v (0 + k + 1 + m) ([] ++ ncs (l.take k) ++ [.string s, .int .i64 n] ++ ncs (l.drop k))) (hF : Fr (fun _ => False) w w') :
    (0 : Int) = 0 ∧ ∃ A cap, Ending.returned (.tuple #[v, .int .i64 0]) = .returned (.tuple #[.slice A (insL l s n).length cap, .int .i64 0]) ∧ OwnN w' w.heap.size (.slice A (insL l s n).length cap) (insL l s n) ∧ Fr (fun _ => False) w w' := by
  obtain ⟨A, cap, rfl, h⟩ := OwnN.shape (l := insL l s n) (by unfold insL; rw [List.length_append, List.length_append, hf, ht, hd]; simp) (by unfold insL; rw [ncs_append, ncs_append, hf]; rfl) ho
  exact ⟨rfl, A, cap, rfl, h, hF⟩

abbrev objE : Obj := .cells #[] 41
abbrev objX (s : ByteArray) (n : Int) : Obj := .cells #[.string s, .int .i64 n] 41
theorem newsX (w : World) {g : Nat} {s : ByteArray} {n : Int} (h : w.heap[g]? = some (.cells #[.string s, .int .i64 n] 41 (0, 0))) : ∀ j u, [Value.string s, .int .i64 n][j]? = some u → w.cell? ((⟨g, 0, none⟩ : Addr).add j) = some u := fun j u hu => by
  rw [add_plain, cellAt h, Nat.zero_add, ← Array.getElem?_toList]
  exact hu
theorem oneX (s : ByteArray) (n : Int) : ∀ u ∈ [Value.string s, .int .i64 n], u.oneCell' = true := by
  intro u hu
  simp at hu
  rcases hu with rfl | rfl <;> rfl
/-- A block of ahead stands behind an append to another row. -/
theorem grown_keep {w w' : World} {q : Option Nat} {g : Nat} {o : Obj} (h : w.heap[g]? = some o) (hg : w.grownBy w' q) (hne : q ≠ some g) : w'.heap[g]? = some o := by
  have hF := (Fr.refl (fun i => q = some i) w).grown hg (fun k e => Or.inl e)
  exact (hF.block g (Array.getElem?_eq_some_iff.1 h).1 hne).trans h

theorem fr_keep {w w' : World} {g : Nat} {o : Obj} (h : w.heap[g]? = some o) (hF : Fr (fun _ => False) w w') : w'.heap[g]? = some o := (hF.block g (Array.getElem?_eq_some_iff.1 h).1 id).trans h

set_option maxHeartbeats 4000000 in
theorem radd (w : World) (b o : Nat) (cap : Nat) (l : List Nm) (s : ByteArray) (num : Int) (hr : RdN w w.heap.size (some ⟨b, o, none⟩) l) (hcap : l.length ≤ cap) (hb : l.length ≤ 5864062014805) (hs : s.size ≤ maxLen) :
    Calls Try.prog 22 #[.slice (some ⟨b, o, none⟩) l.length cap, .string s, .int .i64 num] w (AnsN w (addZ l s num) (insL l s num)) := by
  have HLK := Lib.hid (rlook w (some ⟨b, o, none⟩) cap l s hr (by omega) hs)
  have HIN := Lib.hid (rinode w num)
  obtain ⟨n, hn⟩ : ∃ n, n = l.length := ⟨_, rfl⟩
  obtain ⟨r0, h0⟩ : ∃ r0, r0 = (lookR l s).1 := ⟨_, rfl⟩
  obtain ⟨r1, h1⟩ : ∃ r1, r1 = (lookR l s).2 := ⟨_, rfl⟩
  rw [← h0, ← h1, ← hn] at HLK
  obtain ⟨z, hz⟩ : ∃ z, z = addZ l s num := ⟨_, rfl⟩
  have HZ := Lib.hid (show z = if r1 = 71 then 71 else if inB num = false then 2 else if r1 = 0 then 6 else if 256 ≤ n then 4 else 0 by rw [hz, h1, hn]; rfl)
  rw [← hz]
  rw [← hn] at hb hcap ⊢
  have HR := Lib.hid hr
  have HN := Lib.hid hn
  clear hr hn h0 h1 hz
  by_cases h71 : r1 = 71
  · subst h71
    have HZ2 := Lib.hid (HZ.out.trans (if_pos rfl))
    go_enter Try.func22, Try.ntmps22
    go_wp2_with fail
    refine HLK.out.mono ?_
    rintro e w' ⟨rfl, rfl⟩
    go_wp2_with fail
    go_ret2
    exact Or.inr ⟨by rw [HZ2.out]; simp, by rw [HZ2.out]; rfl, rfl⟩
  have HZ1 := Lib.hid (HZ.out.trans (if_neg h71))
  have h71b : (r1 == 71) = false := by simpa using h71
  clear h71
  cases hin : inB num with
  | false =>
    rw [hin] at HIN HZ1
    have HZ2 := Lib.hid (HZ1.out.trans (if_pos rfl))
    clear hin
    go_enter Try.func22, Try.ntmps22
    go_wp2_with fail
    refine HLK.out.mono ?_
    rintro e w' ⟨rfl, rfl⟩
    go_wp2_with fail
    refine HIN.out.mono ?_
    rintro e w' ⟨rfl, rfl⟩
    go_wp2_with fail
    go_ret2
    exact Or.inr ⟨by rw [HZ2.out]; simp, by rw [HZ2.out]; rfl, rfl⟩
  | true =>
    rw [hin] at HIN HZ1
    have HZ2 := Lib.hid (HZ1.out.trans (if_neg (by simp)))
    clear hin
    by_cases h0 : r1 = 0
    · subst h0
      have HZ3 := Lib.hid (HZ2.out.trans (if_pos rfl))
      clear h71b
      go_enter Try.func22, Try.ntmps22
      go_wp2_with fail
      refine HLK.out.mono ?_
      rintro e w' ⟨rfl, rfl⟩
      go_wp2_with fail
      refine HIN.out.mono ?_
      rintro e w' ⟨rfl, rfl⟩
      go_wp2_with fail
      go_ret2
      exact Or.inr ⟨by rw [HZ3.out]; simp, by rw [HZ3.out]; rfl, rfl⟩
    have HZ3 := Lib.hid (HZ2.out.trans (if_neg h0))
    have h0b : (r1 == 0) = false := by simpa using h0
    clear h0
    by_cases hf : 256 ≤ n
    · have HZ4 := Lib.hid (HZ3.out.trans (if_pos hf))
      go_enter Try.func22, Try.ntmps22
      go_wp2_with fail
      refine HLK.out.mono ?_
      rintro e w' ⟨rfl, rfl⟩
      go_wp2_with fail
      refine HIN.out.mono ?_
      rintro e w' ⟨rfl, rfl⟩
      go_wp2_with fail
      go_ret2
      exact Or.inr ⟨by rw [HZ4.out]; simp, by rw [HZ4.out]; rfl, rfl⟩
    have HZ4 := Lib.hid (HZ3.out.trans (if_neg hf))
    go_enter Try.func22, Try.ntmps22
    go_wp2_with fail
    refine HLK.out.mono ?_
    rintro e w' ⟨rfl, rfl⟩
    go_wp2_with fail
    refine HIN.out.mono ?_
    rintro e w' ⟨rfl, rfl⟩
    go_wp2_with fail
    clear h71b h0b
    go_loop [10] (fun i => ∃ k : Nat, k ≤ n ∧ i = .int .i64 k ∧ Hid (LeTo l s k)) (fun i => n - (intOf i).toNat)
    case atStart => exact ⟨0, Nat.zero_le _, rfl, (show LeTo l s 0 from LeTo.zero _ _)⟩
    case round =>
      obtain ⟨k, hk, rfl, HK⟩ := hrel
      have h3 : (k < n ∧ ∃ x, l[k]? = some x ∧ leS x.1 s = true) ∨ (firstG l s = k ∧ ((k < n ∧ ∃ x, l[k]? = some x ∧ leS x.1 s = false) ∨ ¬ k < n)) := by
        by_cases hlt : k < n
        · obtain ⟨x, hx⟩ : ∃ x, l[k]? = some x := ⟨_, List.getElem?_eq_getElem (by have := HN.out; omega)⟩
          cases hl : leS x.1 s
          · exact Or.inr ⟨firstG_at l s k (by have := HN.out; omega) HK.out (fun y hy => by rw [hx] at hy; cases hy; exact hl), Or.inl ⟨hlt, x, hx, hl⟩⟩
          · exact Or.inl ⟨hlt, x, hx, hl⟩
        · exact Or.inr ⟨firstG_at l s k (by have := HN.out; omega) HK.out (fun y hy => by rw [List.getElem?_eq_none (by have := HN.out; omega)] at hy; cases hy), Or.inr hlt⟩
      rcases h3 with ⟨hlt, x, hx, hl⟩ | ⟨hfk, hend⟩
      · obtain ⟨_, _, e, _, p0, p1⟩ := HR.out.at_ hx
        cases e
        obtain ⟨xs, xi⟩ := x
        have HE := Lib.hid (HK.out.next hx hl)
        have hl2 : (Op.bytesLess xs.toList s.toList || (xs.toList == s.toList)) = true := hl
        clear hx hl
        go_wp2_with fail
        go_round
        case rel => exact ⟨k + 1, by omega, by go_num, HE⟩
        case measure => simp [intOf]; omega
      · have HFK := Lib.hid hfk
        clear hfk
        have hkc : k ≤ cap := by omega
        have hA0 : (0 : Int) ≤ (k : Int) := by omega
        have hB0 : (k : Int) ≤ n := by omega
        have HT := Lib.hid (show (l.take k).length = k by rw [List.length_take, ← HN.out]; omega)
        have HD := Lib.hid (show (l.drop k).length = n - k by rw [List.length_drop, ← HN.out])
        obtain ⟨i0, hi, hz0, hz1, hz2⟩ := info_parts infoN
        have HI := Lib.hid (⟨hi, hz0, hz1, hz2⟩ : _ ∧ _ ∧ _ ∧ _)
        clear hi hz0 hz1 hz2
        rcases hend with ⟨hlt, x, hx, hl⟩ | hlt
        case' inl =>
          obtain ⟨_, _, e, _, p0, p1⟩ := HR.out.at_ hx
          cases e
          obtain ⟨xs, xi⟩ := x
          have hl2 : (Op.bytesLess xs.toList s.toList || (xs.toList == s.toList)) = false := hl
          have hl3 : Op.bytesLess xs.toList s.toList = false := (Bool.or_eq_false_iff.1 hl2).1
          have hl4 : (xs.toList == s.toList) = false := (Bool.or_eq_false_iff.1 hl2).2
          clear hx hl
          go_wp2_with fail
        case' inr =>
          go_wp2_with fail
        all_goals
          have HFa := Lib.hid (((Fr.refl (fun _ => False) w).alloc objE).drew)
          have HOa := Lib.hid (show OwnN (w.alloc objE).drew w.heap.size (.slice (some ⟨w.heap.size, 0, none⟩) 0 0) [] from (ownN_made w).kept ((Fr.refl _ _).drew))
          have HFb := Lib.hid ((((Fr.refl (fun _ => False) w).alloc objE).drew).alloc (objX s num))
          have HOb := Lib.hid (HOa.out.kept ((Fr.refl (fun _ => False) _).alloc (objX s num)))
          have HXb := Lib.hid (show ((w.alloc objE).drew.alloc (objX s num)).heap[w.heap.size + 1]? = some (.cells #[.string s, .int .i64 num] 41 (0, 0)) by rw [← World.size_alloc w objE]; exact heap_alloc_new _ _)
          have HFc := Lib.hid ((((Fr.refl (fun _ => False) w).drew).alloc (objX s num)).alloc objE)
          have HOc := Lib.hid (show OwnN ((w.drew.alloc (objX s num)).alloc objE) w.heap.size (.slice (some ⟨w.heap.size + 1, 0, none⟩) 0 0) [] from ⟨rfl, Or.inr ⟨w.heap.size + 1, 0, #[], rfl, by omega, by rw [show w.heap.size + 1 = (w.drew.alloc (objX s num)).heap.size from (World.size_alloc _ _).symm]; exact heap_alloc_new _ _, Nat.le_refl _, by unfold maxLen; omega, rfl, rfl⟩⟩)
          have HXc := Lib.hid (fr_keep (heap_alloc_new w.drew (objX s num)) ((Fr.refl (fun _ => False) _).alloc objE))
          have HS2 : Hid (∀ w2, Fr (fun _ => False) w w2 → RdN w2 w.heap.size (some ⟨b, o + k * 2, none⟩) (l.drop k)) := Lib.hid fun w2 hF => (drop_rd HR.out k).still hF (Nat.le_refl _)
          have HS3 : Hid (cap = k → ∀ w2, Fr (fun _ => False) w w2 → RdN w2 w.heap.size (some ⟨b, o, none⟩) (l.drop k)) := Lib.hid fun e w2 hF => by
            rw [List.drop_of_length_le (by have := HN.out; omega)]
            exact RdN.nil _ _ _
          by_cases hcc : cap = k
          · have HS4 := Lib.hid (HS3.out hcc)
            have HD0 := Lib.hid (show (l.drop k).length = 0 by rw [HD.out]; omega)
            clear HS3 HS2
            have hcc' := hcc.symm
            clear hcc
            subst hcc'
            go_region_law
              (first
                | (refine step_append_any (by rfl) (.tmp 43) (.tmp 46) 23 (by rfl) w.heap.size 41 i0 zeroN 2 24 Try.underlying23 HI.out.1 HI.out.2.1 HI.out.2.2.1 HI.out.2.2.2 rfl (by omega) _ 0 [] (by rfl) HOa.out ⟨b, o, none⟩ k k (ncs (l.take k)) (by rfl) (by rw [ncs_length, HT.out]) (srcN ((take_rd HR.out k).still HFa.out (Nat.le_refl _))) (ncs_one _) (by unfold maxLen; omega) (by omega) HFa.out.size ?_; intro v1 w1 hown1 hg1; have H1 := Lib.hid (⟨hown1, HFa.out.grown hg1 (fun q e => own_ge HOa.out e)⟩ : _ ∧ _); clear hown1 hg1)
                | (refine step_append_any (by rfl) (.tmp 43) (.tmp 46) 23 (by rfl) w.heap.size 41 i0 zeroN 2 24 Try.underlying23 HI.out.1 HI.out.2.1 HI.out.2.2.1 HI.out.2.2.2 rfl (by omega) _ 0 [] (by rfl) HOb.out ⟨b, o, none⟩ k k (ncs (l.take k)) (by rfl) (by rw [ncs_length, HT.out]) (srcN ((take_rd HR.out k).still HFb.out (Nat.le_refl _))) (ncs_one _) (by unfold maxLen; omega) (by omega) HFb.out.size ?_; intro v1 w1 hown1 hg1; have H1 := Lib.hid (⟨hown1, HFb.out.grown hg1 (fun q e => own_ge HOb.out e)⟩ : _ ∧ _); have HX1 := Lib.hid (grown_keep HXb.out hg1 (by simp [Value.ownBlock])); clear hown1 hg1)
                | (refine step_append_any (by rfl) (.tmp 43) (.tmp 46) 23 (by rfl) w.heap.size 41 i0 zeroN 2 24 Try.underlying23 HI.out.1 HI.out.2.1 HI.out.2.2.1 HI.out.2.2.2 rfl (by omega) _ 0 [] (by rfl) HOc.out ⟨b, o, none⟩ k k (ncs (l.take k)) (by rfl) (by rw [ncs_length, HT.out]) (srcN ((take_rd HR.out k).still HFc.out (Nat.le_refl _))) (ncs_one _) (by unfold maxLen; omega) (by omega) HFc.out.size ?_; intro v1 w1 hown1 hg1; have H1 := Lib.hid (⟨hown1, HFc.out.grown hg1 (fun q e => own_ge HOc.out e)⟩ : _ ∧ _); have HX1 := Lib.hid (grown_keep HXc.out hg1 (by simp [Value.ownBlock])); clear hown1 hg1)
                | (refine step_append_any (by rfl) (.tmp 47) (.tmp 51) 23 (by rfl) w.heap.size 41 i0 zeroN 2 24 Try.underlying23 HI.out.1 HI.out.2.1 HI.out.2.2.1 HI.out.2.2.2 rfl (by omega) _ (0 + k) ([] ++ ncs (l.take k)) (by rfl) (World.ownsRow.alloc H1.out.1 _) ⟨w1.heap.size, 0, none⟩ 1 1 [.string s, .int .i64 num] (by rfl) (by rfl) (newsX _ (heap_alloc_new _ _)) (oneX _ _) (by unfold maxLen; omega) (by omega) (H1.out.2.alloc _).size ?_; intro v2 w2 hown2 hg2; have H2 := Lib.hid (⟨hown2, (H1.out.2.alloc _).grown hg2 (fun q e => own_ge H1.out.1 e)⟩ : _ ∧ _); clear hown2 hg2)
                | (refine step_append_any (by rfl) (.tmp 47) (.tmp 51) 23 (by rfl) w.heap.size 41 i0 zeroN 2 24 Try.underlying23 HI.out.1 HI.out.2.1 HI.out.2.2.1 HI.out.2.2.2 rfl (by omega) _ (0 + k) ([] ++ ncs (l.take k)) (by rfl) H1.out.1 ⟨w.heap.size + 1, 0, none⟩ 1 1 [.string s, .int .i64 num] (by rfl) (by rfl) (newsX _ HX1.out) (oneX _ _) (by unfold maxLen; omega) (by omega) H1.out.2.size ?_; intro v2 w2 hown2 hg2; have H2 := Lib.hid (⟨hown2, H1.out.2.grown hg2 (fun q e => own_ge H1.out.1 e)⟩ : _ ∧ _); clear hown2 hg2)
                | (refine step_append_any (by rfl) (.tmp 47) (.tmp 51) 23 (by rfl) w.heap.size 41 i0 zeroN 2 24 Try.underlying23 HI.out.1 HI.out.2.1 HI.out.2.2.1 HI.out.2.2.2 rfl (by omega) _ (0 + k) ([] ++ ncs (l.take k)) (by rfl) H1.out.1 ⟨w.heap.size, 0, none⟩ 1 1 [.string s, .int .i64 num] (by rfl) (by rfl) (newsX _ HX1.out) (oneX _ _) (by unfold maxLen; omega) (by omega) H1.out.2.size ?_; intro v2 w2 hown2 hg2; have H2 := Lib.hid (⟨hown2, H1.out.2.grown hg2 (fun q e => own_ge H1.out.1 e)⟩ : _ ∧ _); clear hown2 hg2)
                | (refine step_append_any (by rfl) (.tmp 52) (.tmp 55) 23 (by rfl) w.heap.size 41 i0 zeroN 2 24 Try.underlying23 HI.out.1 HI.out.2.1 HI.out.2.2.1 HI.out.2.2.2 rfl (by omega) _ (0 + k + 1) ([] ++ ncs (l.take k) ++ [.string s, .int .i64 num]) (by rfl) H2.out.1 ⟨b, o, none⟩ 0 0 (ncs (l.drop k)) (by rfl) (by rw [ncs_length, HD0.out]) (srcN (HS4.out _ H2.out.2)) (ncs_one _) (by unfold maxLen; omega) (by omega) H2.out.2.size ?_; intro v3 w3 hown3 hg3; have H3 := Lib.hid (⟨hown3, H2.out.2.grown hg3 (fun q e => own_ge H2.out.1 e)⟩ : _ ∧ _); clear hown3 hg3))
            all_goals
              go_wp2
              go_ret2
              exact Or.inl ⟨HZ4.out, (ans_ins HT.out HD0.out HFK.out H3.out.1 H3.out.2).2⟩
          · clear HS3
            go_region_law
              (first
                | (refine step_append_any (by rfl) (.tmp 43) (.tmp 46) 23 (by rfl) w.heap.size 41 i0 zeroN 2 24 Try.underlying23 HI.out.1 HI.out.2.1 HI.out.2.2.1 HI.out.2.2.2 rfl (by omega) _ 0 [] (by rfl) HOa.out ⟨b, o, none⟩ k cap (ncs (l.take k)) (by rfl) (by rw [ncs_length, HT.out]) (srcN ((take_rd HR.out k).still HFa.out (Nat.le_refl _))) (ncs_one _) (by unfold maxLen; omega) (by omega) HFa.out.size ?_; intro v1 w1 hown1 hg1; have H1 := Lib.hid (⟨hown1, HFa.out.grown hg1 (fun q e => own_ge HOa.out e)⟩ : _ ∧ _); clear hown1 hg1)
                | (refine step_append_any (by rfl) (.tmp 43) (.tmp 46) 23 (by rfl) w.heap.size 41 i0 zeroN 2 24 Try.underlying23 HI.out.1 HI.out.2.1 HI.out.2.2.1 HI.out.2.2.2 rfl (by omega) _ 0 [] (by rfl) HOb.out ⟨b, o, none⟩ k cap (ncs (l.take k)) (by rfl) (by rw [ncs_length, HT.out]) (srcN ((take_rd HR.out k).still HFb.out (Nat.le_refl _))) (ncs_one _) (by unfold maxLen; omega) (by omega) HFb.out.size ?_; intro v1 w1 hown1 hg1; have H1 := Lib.hid (⟨hown1, HFb.out.grown hg1 (fun q e => own_ge HOb.out e)⟩ : _ ∧ _); have HX1 := Lib.hid (grown_keep HXb.out hg1 (by simp [Value.ownBlock])); clear hown1 hg1)
                | (refine step_append_any (by rfl) (.tmp 43) (.tmp 46) 23 (by rfl) w.heap.size 41 i0 zeroN 2 24 Try.underlying23 HI.out.1 HI.out.2.1 HI.out.2.2.1 HI.out.2.2.2 rfl (by omega) _ 0 [] (by rfl) HOc.out ⟨b, o, none⟩ k cap (ncs (l.take k)) (by rfl) (by rw [ncs_length, HT.out]) (srcN ((take_rd HR.out k).still HFc.out (Nat.le_refl _))) (ncs_one _) (by unfold maxLen; omega) (by omega) HFc.out.size ?_; intro v1 w1 hown1 hg1; have H1 := Lib.hid (⟨hown1, HFc.out.grown hg1 (fun q e => own_ge HOc.out e)⟩ : _ ∧ _); have HX1 := Lib.hid (grown_keep HXc.out hg1 (by simp [Value.ownBlock])); clear hown1 hg1)
                | (refine step_append_any (by rfl) (.tmp 47) (.tmp 51) 23 (by rfl) w.heap.size 41 i0 zeroN 2 24 Try.underlying23 HI.out.1 HI.out.2.1 HI.out.2.2.1 HI.out.2.2.2 rfl (by omega) _ (0 + k) ([] ++ ncs (l.take k)) (by rfl) (World.ownsRow.alloc H1.out.1 _) ⟨w1.heap.size, 0, none⟩ 1 1 [.string s, .int .i64 num] (by rfl) (by rfl) (newsX _ (heap_alloc_new _ _)) (oneX _ _) (by unfold maxLen; omega) (by omega) (H1.out.2.alloc _).size ?_; intro v2 w2 hown2 hg2; have H2 := Lib.hid (⟨hown2, (H1.out.2.alloc _).grown hg2 (fun q e => own_ge H1.out.1 e)⟩ : _ ∧ _); clear hown2 hg2)
                | (refine step_append_any (by rfl) (.tmp 47) (.tmp 51) 23 (by rfl) w.heap.size 41 i0 zeroN 2 24 Try.underlying23 HI.out.1 HI.out.2.1 HI.out.2.2.1 HI.out.2.2.2 rfl (by omega) _ (0 + k) ([] ++ ncs (l.take k)) (by rfl) H1.out.1 ⟨w.heap.size + 1, 0, none⟩ 1 1 [.string s, .int .i64 num] (by rfl) (by rfl) (newsX _ HX1.out) (oneX _ _) (by unfold maxLen; omega) (by omega) H1.out.2.size ?_; intro v2 w2 hown2 hg2; have H2 := Lib.hid (⟨hown2, H1.out.2.grown hg2 (fun q e => own_ge H1.out.1 e)⟩ : _ ∧ _); clear hown2 hg2)
                | (refine step_append_any (by rfl) (.tmp 47) (.tmp 51) 23 (by rfl) w.heap.size 41 i0 zeroN 2 24 Try.underlying23 HI.out.1 HI.out.2.1 HI.out.2.2.1 HI.out.2.2.2 rfl (by omega) _ (0 + k) ([] ++ ncs (l.take k)) (by rfl) H1.out.1 ⟨w.heap.size, 0, none⟩ 1 1 [.string s, .int .i64 num] (by rfl) (by rfl) (newsX _ HX1.out) (oneX _ _) (by unfold maxLen; omega) (by omega) H1.out.2.size ?_; intro v2 w2 hown2 hg2; have H2 := Lib.hid (⟨hown2, H1.out.2.grown hg2 (fun q e => own_ge H1.out.1 e)⟩ : _ ∧ _); clear hown2 hg2)
                | (refine step_append_any (by rfl) (.tmp 52) (.tmp 55) 23 (by rfl) w.heap.size 41 i0 zeroN 2 24 Try.underlying23 HI.out.1 HI.out.2.1 HI.out.2.2.1 HI.out.2.2.2 rfl (by omega) _ (0 + k + 1) ([] ++ ncs (l.take k) ++ [.string s, .int .i64 num]) (by rfl) H2.out.1 ⟨b, o + k * 2, none⟩ (n - k) (cap - k) (ncs (l.drop k)) (by rfl) (by rw [ncs_length, HD.out]) (srcN (HS2.out _ H2.out.2)) (ncs_one _) (by unfold maxLen; omega) (by omega) H2.out.2.size ?_; intro v3 w3 hown3 hg3; have H3 := Lib.hid (⟨hown3, H2.out.2.grown hg3 (fun q e => own_ge H2.out.1 e)⟩ : _ ∧ _); clear hown3 hg3))
            all_goals
              go_wp2
              go_ret2
              exact Or.inl ⟨HZ4.out, (ans_ins HT.out HD.out HFK.out H3.out.1 H3.out.2).2⟩
end Go.Proofs.Ytppkmfhlmmlckaa.nm
