/-
  The program's parts: Index and Cut at a /; the iterator's contract.
-/
import Derived.Test.YtgimiggffpokpaaGreatDoorRn
import Derived.Test.YtgimiggffpokpaaGreatDoorJC
import Derived.Lib.Bytealg
namespace Go.Proofs.YtgimiggffpokpaaGreatDoor.pt
set_option maxRecDepth 100000
open Go.RowKit Go.Maps
set_option maxRecDepth 100000

theorem split_index : ∀ l : Tx, ∃ p r, splitB 47 l = p :: r ∧ ((r = [] ∧ Lib.indexByte l 47 = -1 ∧ p = l) ∨ (r ≠ [] ∧ Lib.indexByte l 47 = (p.length : Int) ∧ p.length < l.length ∧ l.take p.length = p ∧ l.drop (p.length + 1) = joinB 47 r))
  | [] => ⟨[], [], rfl, Or.inl ⟨rfl, rfl, rfl⟩⟩
  | x :: t => by
    by_cases hx : x = 47
    · refine ⟨[], splitB 47 t, ?_, Or.inr ⟨split_ne _ _, ?_, by simp, rfl, ?_⟩⟩
      · conv => lhs; unfold splitB
        rw [if_pos hx]
      · unfold Lib.indexByte
        rw [if_pos (by rw [hx]; rfl)]
        rfl
      · rw [join_split]
        rfl
    · have hi : Lib.indexByte (x :: t) 47 = if Lib.indexByte t 47 == -1 then -1 else Lib.indexByte t 47 + 1 := by
        conv => lhs; unfold Lib.indexByte
        rw [if_neg (by simpa using hx)]
      obtain ⟨p, r, e, h⟩ := split_index t
      refine ⟨x :: p, r, ?_, ?_⟩
      · conv => lhs; unfold splitB
        rw [if_neg hx, e]
      · rcases h with ⟨h1, h2, h3⟩ | ⟨h1, h2, h3, h4, h5⟩
        · exact Or.inl ⟨h1, by rw [hi, h2]; rfl, by rw [h3]⟩
        · refine Or.inr ⟨h1, ?_, by simpa using h3, by rw [List.length_cons, List.take_succ_cons, h4], by rw [List.length_cons]; exact h5⟩
          rw [hi, h2, if_neg (by simp)]
          rfl
set_option maxHeartbeats 1000000 in
theorem psib (w : World) (s : ByteArray) : Calls Tryz.prog 78 #[.string s, .int .u8 47] w fun e w' => e = .returned (.int .i64 (Lib.indexByte s.data.toList 47)) ∧ w = w' := by
  have H := Lib.hid (Lib.run_indexByteString (P := Tryz.prog) s 47 w)
  go_enter Tryz.func78, Tryz.ntmps78
  go_wp2
  rw [run_callFunc_extern Tryz.func106 (by kernel_rfl) (by kernel_rfl) (by kernel_rfl) (e := Extern.BytealgIndexByte.indexByte) (by kernel_rfl), H.out]
  simp only [Result.andThen]
  rw [Oper.upon_value]
  go_wp2
  go_ret
  exact ⟨rfl, rfl⟩
set_option maxHeartbeats 2000000 in
theorem psix (w : World) (s : ByteArray) : Calls Tryz.prog 56 #[.string s, .string ⟨#[47]⟩] w fun e w' => e = .returned (.int .i64 (Lib.indexByte s.toList 47)) ∧ w = w' := by
  by_cases h : s.toList = [47]
  · obtain rfl : s = ⟨#[47]⟩ := by rw [← tx_of s, h]
    rw [h]
    go_enter Tryz.func56, Tryz.ntmps56
    go_wp2_with fail
    go_ret
    exact ⟨rfl, rfl⟩
  · have h1 : ([47] == s.toList) = false := beq_eq_false_iff_ne.2 (fun e => h e.symm)
    have H := Lib.hid (psib w s)
    rw [← toL] at H
    obtain ⟨R, hR⟩ : ∃ R, R = Lib.indexByte s.toList 47 := ⟨_, rfl⟩
    rw [← hR] at H ⊢
    clear h hR
    go_enter Tryz.func56, Tryz.ntmps56
    go_wp2_with (go_at_call 78; refine H.out.mono ?_; rintro e w' ⟨rfl, rfl⟩)
    go_ret
    exact ⟨rfl, rfl⟩
/-- What Cut at a / answers: the first part, the others with / between, whether there is one. -/
def CutS (w : World) (p : Tx) (r : List Tx) (e : Ending) (w' : World) : Prop := e = .returned (.tuple #[.string (tx p), .string (tx (joinB 47 r)), .bool (!r.isEmpty)]) ∧ Calm w w'
set_option maxHeartbeats 4000000 in
theorem pcut0 (w : World) (s : ByteArray) (hs : s.size ≤ 1099511627776) (p : Tx) (r : List Tx) (h : splitB 47 s.toList = p :: r) : Calls Tryz.prog 36 #[.string s, .string ⟨#[47]⟩] w (CutS w p r) := by
  have H := Lib.hid (psix w s)
  obtain ⟨p', r', e, h'⟩ := split_index s.toList
  rw [h] at e
  cases e
  have HC := Lib.hid (fun n => (⟨n, rfl⟩ : Calm w (w.drewN n)))
  unfold CutS
  rcases h' with ⟨h1, h2, h3⟩ | ⟨h1, h2, h3, h4, h5⟩
  · subst h1
    rw [h2] at H
    have HX := Lib.hid (show tx p = s by rw [h3, tx_of])
    clear h h2 h3
    go_enter Tryz.func36, Tryz.ntmps36
    go_wp2_with (go_at_call 56; refine H.out.mono ?_; rintro e w' ⟨rfl, rfl⟩)
    go_ret3
    exact ⟨by rw [HX.out]; rfl, HC.out 0⟩
  · rw [h2] at H
    obtain ⟨k, hk⟩ : ∃ k, k = p.length := ⟨_, rfl⟩
    rw [← hk] at H h3 h4 h5
    rw [toL_len] at h3
    have hk1 : (0 : Int) ≤ k := by omega
    have hk2 : (k : Int) ≤ s.size := by omega
    have hk3 : IntKind.i64.wrap ((k : Int) + 1) = (k : Int) + 1 := by rw [IntKind.wrap_i64]; omega
    have hk4 : (0 : Int) ≤ (k : Int) + 1 := by omega
    have hk5 : (k : Int) + 1 ≤ s.size := by omega
    have HP := Lib.hid (show tx p = s.extract 0 k by rw [tx_ext, List.drop_zero, Nat.sub_zero, h4])
    have HR := Lib.hid (show tx (joinB 47 r) = s.extract (k + 1) s.size by rw [tx_ext, List.take_of_length_le (by rw [List.length_drop, toL_len]; exact Nat.le_refl _), h5])
    have HB : (!r.isEmpty) = true := by cases r with | nil => exact absurd rfl h1 | cons a b => rfl
    rw [HB, HP.out, HR.out]
    clear h h2 h4 h5 hk h1 HB HP HR
    go_enter Tryz.func36, Tryz.ntmps36
    go_wp2_with (go_at_call 56; refine H.out.mono ?_; rintro e w' ⟨rfl, rfl⟩)
    go_region
    all_goals go_wp2_with fail
    all_goals go_ret3
    all_goals exact ⟨rfl, HC.out 1⟩
set_option maxHeartbeats 1000000 in
theorem pcut (w : World) (s : ByteArray) (hs : s.size ≤ 1099511627776) (p : Tx) (r : List Tx) (h : splitB 47 s.toList = p :: r) : Calls Tryz.prog 22 #[.string s, .string ⟨#[47]⟩] w (CutS w p r) := by
  have H := Lib.hid (pcut0 w s hs p r h)
  clear h
  go_enter Tryz.func22, Tryz.ntmps22
  go_wp2_with (go_at_call 36; refine H.out.mono ?_; rintro e w' ⟨rfl, hC⟩; have HC := Lib.hid hC; clear hC)
  go_ret3
  exact ⟨rfl, HC.out⟩
set_option maxHeartbeats 1000000 in
theorem pparts (w : World) (s : ByteArray) : Calls Tryz.prog 12 #[.string s] w fun e w' => e = .returned (.func (.func 21) #[] #[.pointer (some ⟨w.heap.size, 0, none⟩)]) ∧ w' = w.alloc (.cells #[.string s] 9) := by
  go_enter Tryz.func12, Tryz.ntmps12
  go_wp2
  go_ret
  exact ⟨rfl, rfl⟩
/-- The k-th part. -/
def pkB (l : Tx) (k : Nat) : Tx := (splitB 47 l)[k]?.getD []
abbrev encP (l : Tx) (k : Nat) : Array Value := #[.string (tx (pkB l k))]
def lenV : Value → Nat
  | .string x => x.size
  | _ => 0
def yesV : Value → Nat
  | .bool true => 1
  | _ => 0
theorem pk_drop {l : Tx} {k : Nat} (h : k < (splitB 47 l).length) : (splitB 47 l).drop k = pkB l k :: (splitB 47 l).drop (k + 1) := by
  unfold pkB
  rw [List.drop_eq_getElem_cons h, List.getElem?_eq_getElem h]
  rfl
theorem join_len_drop (l : Tx) (k : Nat) : (joinB 47 ((splitB 47 l).drop k)).length ≤ l.length := by
  induction k with
  | zero => rw [List.drop_zero, join_split]; exact Nat.le_refl _
  | succ k ih =>
    by_cases h : k < (splitB 47 l).length
    · rw [pk_drop h] at ih
      by_cases h2 : (splitB 47 l).drop (k + 1) = []
      · rw [h2]; exact Nat.zero_le _
      · rw [join_cons h2, List.length_append, List.length_cons] at ih
        omega
    · rw [List.drop_eq_nil_of_le (by omega)]
      exact Nat.zero_le _
set_option maxHeartbeats 4000000 in
theorem parts_seq (n : Nat) (hn : 1 ≤ n) (s : ByteArray) (hs : s.size ≤ 1099511627776) (w : World) (Bs : Nat) (hlt : Bs < w.heap.size) (hc : w.cell? ⟨Bs, 0, none⟩ = some (.string s)) :
    rn.SeqN Fence.wide n Tryz.prog 21 #[.pointer (some ⟨Bs, 0, none⟩)] (encP s.toList) (splitB 47 s.toList).length w := fun l J Jx W hW hJ hY h0 => by
  have hc' := (hW.cell (p := ⟨Bs, 0, none⟩) hlt).trans hc
  obtain ⟨N, hN⟩ : ∃ N, N = (splitB 47 s.toList).length := ⟨_, rfl⟩
  have HN := Lib.hid hN
  rw [← hN] at hY ⊢
  have HY := Lib.hid hY
  clear hY hN hc hlt hW
  refine callsIn_of_wp Tryz.func21 rfl trivial ?_ rfl
  simp only [Tryz.ntmps21, List.size_toArray, List.length_cons, List.length_nil, Nat.reduceAdd, Nat.reduceSub, Array.replicate_succ, Array.replicate_zero, List.push_toArray, List.append_toArray, List.nil_append, List.cons_append]
  gi_wp2
  gi_loopw [3, 4] (fun a b wr => ∃ (k : Nat) (L : ByteArray) (c : Bool), k ≤ N ∧ a = .string L ∧ b = .bool c ∧ Hid (c = decide (k < N) ∧ L.toList = joinB 47 ((splitB 47 s.toList).drop k) ∧ J k wr)) (fun a b _ => lenV a + yesV b)
  case atStart =>
    refine ⟨0, s, true, Nat.zero_le _, rfl, rfl, ?_, ?_, h0⟩
    · rw [decide_eq_true]
      rw [HN.out]
      exact List.length_pos_iff.2 (split_ne _ _)
    · rw [List.drop_zero, join_split]
  case round =>
    obtain ⟨k, L, c, hk, rfl, rfl, HK⟩ := hrel
    cases c with
    | false =>
      gi_wp2
      go_end0
      have h1 := HK.out.1
      have h2 : k = N := by
        have := of_decide_eq_false h1.symm
        omega
      exact ⟨⟨_, rfl⟩, Or.inl (h2 ▸ HK.out.2.2)⟩
    | true =>
      have hkN : k < N := of_decide_eq_true HK.out.1.symm
      have hkl : k < (splitB 47 s.toList).length := by rw [← HN.out]; exact hkN
      have hd := pk_drop hkl
      have hLs : L.size ≤ s.size := by rw [← toL_len, ← toL_len, HK.out.2.1]; exact join_len_drop _ _
      have hsp : splitB 47 L.toList = pkB s.toList k :: (splitB 47 s.toList).drop (k + 1) := by
        rw [HK.out.2.1, split_join (by rw [hd]; simp) (fun p hp => split_all p (List.mem_of_mem_drop hp)), hd]
      have HCUT := Lib.hid (pcut wr L (by omega) _ _ hsp)
      have HL2 := Lib.hid (show (splitB 47 s.toList).drop (k + 1) ≠ [] → (joinB 47 ((splitB 47 s.toList).drop (k + 1))).length < L.size by
        intro hne
        rw [← toL_len, HK.out.2.1, hd, join_cons hne, List.length_append, List.length_cons]
        omega)
      have HNX := Lib.hid (show (!((splitB 47 s.toList).drop (k + 1)).isEmpty) = decide (k + 1 < N) by
        by_cases h : k + 1 < N
        · rw [decide_eq_true h]
          have : (splitB 47 s.toList).drop (k + 1) ≠ [] := by
            intro e
            have := congrArg List.length e
            rw [List.length_drop, ← HN.out] at this
            simp at this
            omega
          cases hq : (splitB 47 s.toList).drop (k + 1) with
          | nil => exact absurd hq this
          | cons => rfl
        · rw [decide_eq_false h, List.drop_eq_nil_of_le (by rw [← HN.out]; omega)]
          rfl)
      obtain ⟨c2, hc2⟩ : ∃ c2, c2 = decide (k + 1 < N) := ⟨_, rfl⟩
      obtain ⟨X, hX⟩ : ∃ X, X = tx (pkB s.toList k) := ⟨_, rfl⟩
      obtain ⟨L2, hL2⟩ : ∃ L2, L2 = tx (joinB 47 ((splitB 47 s.toList).drop (k + 1))) := ⟨_, rfl⟩
      have HL3 := Lib.hid (show L2.toList = joinB 47 ((splitB 47 s.toList).drop (k + 1)) by rw [hL2, tx_toL])
      have HC2 := Lib.hid hc2
      have HME := Lib.hid (show L2.size + yesV (.bool c2) < L.size + 1 by
        rw [← toL_len L2, HL3.out]
        cases h : c2 with
        | false =>
          by_cases hne : (splitB 47 s.toList).drop (k + 1) = []
          · rw [hne]; show 0 + 0 < _; omega
          · have := HL2.out hne; show _ + 0 < _; omega
        | true =>
          have hne : (splitB 47 s.toList).drop (k + 1) ≠ [] := by
            intro e
            have h2 := HNX.out
            rw [e, ← hc2, h] at h2
            cases h2
          have := HL2.out hne
          show _ + 1 < _
          omega)
      have HCU := Lib.hid (show Calls Tryz.prog 22 #[.string L, .string ⟨#[47]⟩] wr (fun e w' => e = .returned (.tuple #[.string X, .string L2, .bool c2]) ∧ Calm wr w') from HCUT.out.mono (fun e w' h => ⟨by rw [h.1, ← hX, ← hL2, HNX.out, ← hc2], h.2⟩))
      have HYK := Lib.hid (fun w' (h : Calm wr w') => HY.out k w' hkN (hJ k wr w' HK.out.2.2 h.fr))
      unfold encP at HYK
      rw [← hX] at HYK
      clear HCUT hX hL2 hc2 hsp hd hkl hLs HL2 HNX hc'
      gi_wp2_with (refine ⟨trivial, ?_⟩; gi_at_call 22; refine (callsIn_wide.2 HCU.out).mono ?_; rintro e w' ⟨rfl, hC⟩; obtain ⟨fn, tmps, assign, body, hy, hR⟩ := HYK.out w' hC; clear hC)
      refine hR.mono ?_
      rintro e W3 (⟨rfl, hJ3⟩ | ⟨rfl, hx3⟩)
      · have HJ3 := Lib.hid hJ3
        clear hJ3
        gi_wp2
        go_roundw
        case rel => exact ⟨k + 1, L2, c2, hkN, rfl, rfl, HC2.out, HL3.out, HJ3.out⟩
        case measure => exact HME.out
      · have HX3 := Lib.hid hx3
        clear hx3
        gi_wp2
        refine bodyPost_ret (results_none rfl _ _ _) rfl ?_
        exact ⟨⟨_, rfl⟩, Or.inr ⟨k + 1, hkN, HX3.out⟩⟩
end Go.Proofs.YtgimiggffpokpaaGreatDoor.pt
