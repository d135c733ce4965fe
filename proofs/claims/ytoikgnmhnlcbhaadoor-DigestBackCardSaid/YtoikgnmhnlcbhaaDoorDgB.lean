/-
  The document's digit, row, word, start; words appended.
-/
import Derived.Test.YtoikgnmhnlcbhaaDoorDgA
import Derived.Laws.IdiomStrings
namespace Go.Proofs.YtoikgnmhnlcbhaaDoor.dg
set_option maxRecDepth 100000
open Go.RowKit Go.Maps
set_option maxRecDepth 100000

theorem infoW : (Tryd.prog.info? 41).map (fun i => (i.zero, i.size, i.bytes)) = some (some (.int .u32 0), 1, 4) := by kernel_rfl
theorem own_madeW (w : World) (l : List W) (h : l.length ≤ maxLen) : OwnW (w.alloc (.cells (ws l).toArray 41)) w.heap.size (.slice (some ⟨w.heap.size, 0, none⟩) l.length l.length) l :=
  ⟨by rw [ws_length, Nat.mul_one], Or.inr ⟨w.heap.size, l.length, (ws l).toArray, rfl, Nat.le_refl _, heap_alloc_new _ _, Nat.le_refl _, h, by simp [ws_length], by rw [Nat.mul_one]; exact List.take_of_length_le (by simp [ws_length])⟩⟩
section
variable {ops : Array Oper} {rest : List Oper} {o : Oper} {a : Act} {w : World} {Q : Exit → Act → World → Prop}
/-- Words appended to words of the call's own. -/
theorem wpList_appW (hgd : o.guard = none) (x y : Operand) (ho : o.op = .call { callee := .builtin .append, args := #[x, y], argTypes := #[39, 39] }) (w0 : World) (v : Value) (l : List W) (hx : a.eval x = v) (hown : OwnW w w0.heap.size v l) (hF : Fr (fun _ => False) w0 w) (hnn : v ≠ .slice none 0 0)
    (ad : Addr) (n cap : Nat) (m : List W) (hy : a.eval y = .slice (some ad) n cap) (hn : n = m.length) (hs : ∀ j u, (ws m)[j]? = some u → w.cell? (ad.add j) = some u) (hl : l.length + m.length ≤ 1000000)
    (h : ∀ A' cap' w', OwnW w' w0.heap.size (.slice A' (l ++ m).length cap') (l ++ m) → Fr (fun _ => False) w0 w' → Value.slice A' (l ++ m).length cap' ≠ .slice none 0 0 → wpList Tryd.prog ops Q rest (a.put o.dst (.slice A' (l ++ m).length cap')) w') : wpList Tryd.prog ops Q (o :: rest) a w := by
  obtain ⟨i0, hi, hz0, hz1, hz2⟩ := info_parts infoW
  refine wpList_append_own w hgd x y 39 ho w0.heap.size 41 i0 (.int .u32 0) 1 4 Tryd.underlying39 hi hz0 hz1 hz2 rfl (by omega) v l.length (ws l) hx hown ad n cap (ws m) hy (by rw [ws_length]; omega) hs (ws_one m) (by unfold maxLen; omega) (by omega) hF.size ?_
  intro v' w' h1 h2 h3
  have hF2 : Fr (fun _ => False) w0 w' := hF.grown h2 (fun k hk => Or.inr (hown.lt k hk).1)
  have hlen : (l ++ m).length = l.length + n := by rw [List.length_append, hn]
  have h4 : OwnW w' w0.heap.size v' (l ++ m) := by
    unfold OwnW
    rw [hlen, ws_append]
    exact h1
  have hv' : v' ≠ .slice none 0 0 := fun e => hnn (h3.1 e).1
  obtain ⟨h5, h6⟩ := id h4
  rcases h6 with ⟨e, _⟩ | ⟨g, cap', cur, e, r⟩
  · exact absurd e hv'
  · subst e
    exact h _ _ w' h4 hF2 hv'
end
set_option maxHeartbeats 1000000 in
theorem rstart (w : World) : Calls Tryd.prog 23 #[] w fun e w' => e = .returned (.slice (some ⟨w.heap.size, 0, none⟩) 8 8) ∧ w' = w.alloc (.cells (ws ivL).toArray 41) := by
  go_enter Tryd.func23, Tryd.ntmps23
  go_wp2_with fail
  go_ret
  exact ⟨rfl, rfl⟩
theorem unhex_le (c : UInt8) : unhex c ≤ 16 := by
  unfold unhex
  split
  · omega
  · split <;> omega
set_option maxHeartbeats 1000000 in
theorem rdigit (w : World) (c : UInt8) : Calls Tryd.prog 26 #[.int .u8 (c.toNat : Int)] w fun e w' => e = .returned (.int .u8 (unhex c : Nat)) ∧ w = w' := by
  have hc := c.toNat_lt
  obtain ⟨R, hR⟩ : ∃ R, R = unhex c := ⟨_, rfl⟩
  rw [← hR]
  unfold unhex at hR
  obtain ⟨n, hn⟩ : ∃ n, n = c.toNat := ⟨_, rfl⟩
  rw [← hn] at hR hc ⊢
  rcases (show (48 ≤ n ∧ n ≤ 57) ∨ (¬ (48 ≤ n ∧ n ≤ 57) ∧ 97 ≤ n ∧ n ≤ 102) ∨ (¬ (48 ≤ n ∧ n ≤ 57) ∧ ¬ (97 ≤ n ∧ n ≤ 102)) by omega) with h | ⟨h1, h2⟩ | ⟨h1, h2⟩
  · rw [if_pos h] at hR
    have HR := Lib.hid hR
    obtain ⟨g1, g2⟩ := h
    have g1' : (48 : Int) ≤ (n : Int) := by omega
    have g2' : (n : Int) ≤ 57 := by omega
    clear hR hn
    go_enter Tryd.func26, Tryd.ntmps26
    go_wp2_with fail
    go_ret
    refine ⟨?_, rfl⟩
    rw [HR.out]
    show Ending.returned (.int .u8 ((n : Int) - 48)) = .returned (.int .u8 ((n - 48 : Nat) : Int))
    rw [show ((n - 48 : Nat) : Int) = (n : Int) - 48 by omega]
  · rw [if_neg h1, if_pos h2] at hR
    have HR := Lib.hid hR
    obtain ⟨g1, g2⟩ := h2
    have g1' : (97 : Int) ≤ (n : Int) := by omega
    have g2' : (n : Int) ≤ 102 := by omega
    have g3' : ¬ (n : Int) ≤ 57 := by omega
    clear hR hn h1
    go_enter Tryd.func26, Tryd.ntmps26
    go_wp2_with fail
    go_ret
    refine ⟨?_, rfl⟩
    rw [HR.out]
    show Ending.returned (.int .u8 ((n : Int) - 97 + 10)) = .returned (.int .u8 ((n - 87 : Nat) : Int))
    rw [show ((n - 87 : Nat) : Int) = (n : Int) - 97 + 10 by omega]
  · rw [if_neg h1, if_neg h2] at hR
    have HR := Lib.hid hR
    rcases (show n < 48 ∨ (57 < n ∧ n < 97) ∨ 102 < n by omega) with g | ⟨g1, g2⟩ | g
    · have g1' : ¬ (48 : Int) ≤ (n : Int) := by omega
      have g2' : ¬ (97 : Int) ≤ (n : Int) := by omega
      clear hR hn h1 h2
      go_enter Tryd.func26, Tryd.ntmps26
      go_wp2_with fail
      go_ret
      exact ⟨by rw [HR.out]; rfl, rfl⟩
    · have g1' : (48 : Int) ≤ (n : Int) := by omega
      have g2' : ¬ (n : Int) ≤ 57 := by omega
      have g3' : ¬ (97 : Int) ≤ (n : Int) := by omega
      clear hR hn h1 h2
      go_enter Tryd.func26, Tryd.ntmps26
      go_wp2_with fail
      go_ret
      exact ⟨by rw [HR.out]; rfl, rfl⟩
    · have g1' : (48 : Int) ≤ (n : Int) := by omega
      have g2' : ¬ (n : Int) ≤ 57 := by omega
      have g3' : (97 : Int) ≤ (n : Int) := by omega
      have g4' : ¬ (n : Int) ≤ 102 := by omega
      clear hR hn h1 h2
      go_enter Tryd.func26, Tryd.ntmps26
      go_wp2_with fail
      go_ret
      exact ⟨by rw [HR.out]; rfl, rfl⟩

/-! ### the rows -/
def rowS : ByteArray := ⟨(rowsL.map hexD).toArray⟩
theorem rowS_get (k : Nat) (h : k < 160) : ∃ h2 : k < rowS.size, rowS[k] = hexD (rowsL.getD k 0) := by
  have hl : rowsL.length = 160 := by decide
  have hsz : rowS.size = 160 := by
    show (rowsL.map hexD).toArray.size = 160
    rw [List.size_toArray, List.length_map, hl]
  have h2 : k < rowS.size := by omega
  refine ⟨h2, ?_⟩
  have h3 : k < (rowsL.map hexD).length := by rw [List.length_map, hl]; exact h
  have h4 : rowS[k] = (rowsL.map hexD)[k] := rfl
  refine h4.trans ?_
  rw [List.getElem_map, List.getD_eq_getElem?_getD, List.getElem?_eq_getElem (by omega)]
  rfl
theorem rows_lt (k : Nat) : rowsL.getD k 0 < 16 := by
  by_cases h : k < 160
  · have : ∀ j : Fin 160, rowsL.getD j.val 0 < 16 := by decide +kernel
    exact this ⟨k, h⟩
  · rw [List.getD_eq_getElem?_getD, List.getElem?_eq_none (by show 160 ≤ k; omega)]
    decide
theorem rowS_lit : rowS = ⟨#[48, 49, 50, 51, 52, 53, 54, 55, 56, 57, 97, 98, 99, 100, 101, 102, 101, 97, 52, 56, 57, 102, 100, 54, 49, 99, 48, 50, 98, 55, 53, 51, 98, 56, 99, 48, 53, 50, 102, 100, 97, 101, 51, 54, 55, 49, 57, 52, 55, 57, 51, 49, 100, 99, 98, 101, 50, 54, 53, 97, 52, 48, 102, 56, 57, 48, 53, 55, 50, 52, 97, 102, 101, 49, 98, 99, 54, 56, 51, 100, 50, 99, 54, 97, 48, 98, 56, 51, 52, 100, 55, 53, 102, 101, 49, 57, 99, 53, 49, 102, 101, 100, 52, 97, 48, 55, 54, 51, 57, 50, 56, 98, 100, 98, 55, 101, 99, 49, 51, 57, 53, 48, 102, 52, 56, 54, 50, 97, 54, 102, 101, 57, 98, 51, 48, 56, 99, 50, 100, 55, 49, 52, 97, 53, 97, 50, 56, 52, 55, 54, 49, 53, 102, 98, 57, 101, 51, 99, 100, 48]⟩ := by
  show (⟨(rowsL.map hexD).toArray⟩ : ByteArray) = _
  congr 1
theorem run_rowS (w : World) (k : Nat) (h : k < 160) : (Instr.index 9 (.string ⟨#[48, 49, 50, 51, 52, 53, 54, 55, 56, 57, 97, 98, 99, 100, 101, 102, 101, 97, 52, 56, 57, 102, 100, 54, 49, 99, 48, 50, 98, 55, 53, 51, 98, 56, 99, 48, 53, 50, 102, 100, 97, 101, 51, 54, 55, 49, 57, 52, 55, 57, 51, 49, 100, 99, 98, 101, 50, 54, 53, 97, 52, 48, 102, 56, 57, 48, 53, 55, 50, 52, 97, 102, 101, 49, 98, 99, 54, 56, 51, 100, 50, 99, 54, 97, 48, 98, 56, 51, 52, 100, 55, 53, 102, 101, 49, 57, 99, 53, 49, 102, 101, 100, 52, 97, 48, 55, 54, 51, 57, 50, 56, 98, 100, 98, 55, 101, 99, 49, 51, 57, 53, 48, 102, 52, 56, 54, 50, 97, 54, 102, 101, 57, 98, 51, 48, 56, 99, 50, 100, 55, 49, 52, 97, 53, 97, 50, 56, 52, 55, 54, 49, 53, 102, 98, 57, 101, 51, 99, 100, 48]⟩) (.int .i64 (k : Int))).run Tryd.prog w = .ok (.int .u8 ((hexD (rowsL.getD k 0)).toNat : Int)) w := by
  obtain ⟨h2, h3⟩ := rowS_get k h
  rw [← rowS_lit, run_index_string (P := Tryd.prog) w 9 rowS .i64 k Tryd.underlying9, dif_pos ⟨by omega, by omega⟩]
  congr 2
  rw [← h3]
  rfl
set_option maxHeartbeats 2000000 in
theorem rrow (w : World) (r i : Nat) (hr : r < 10) (hi : i < 16) : Calls Tryd.prog 34 #[.int .i64 (r : Int), .int .i64 (i : Int)] w fun e w' => e = .returned (.int .i64 (rwN r i : Nat)) ∧ w = w' := by
  have hix := run_rowS w (16 * r + i) (by omega)
  have hlt := rows_lt (16 * r + i)
  have HD := Lib.hid (rdigit w (hexD (rowsL.getD (16 * r + i) 0)))
  rw [unhex_hex _ hlt] at HD
  unfold rwN
  obtain ⟨q, hq⟩ : ∃ q, q = rowsL.getD (16 * r + i) 0 := ⟨_, rfl⟩
  rw [← hq] at hix HD hlt ⊢
  obtain ⟨z, hz⟩ : ∃ z : Nat, z = (hexD q).toNat := ⟨_, rfl⟩
  rw [← hz] at hix HD
  have hk : (16 : Int) * (r : Int) + (i : Int) = ((16 * r + i : Nat) : Int) := by omega
  obtain ⟨k, hk2⟩ : ∃ k, k = 16 * r + i := ⟨_, rfl⟩
  rw [← hk2] at hix hk
  clear hq hz hk2
  go_enter Tryd.func34, Tryd.ntmps34
  go_wp2_with fail
  refine HD.out.mono ?_
  rintro e w' ⟨rfl, rfl⟩
  go_wp2_with fail
  go_ret
  exact ⟨rfl, rfl⟩
set_option maxHeartbeats 2000000 in
theorem rword (w : World) (blk off B : Nat) (cap : Nat) (b : Bts) (hr : Rd w B (some ⟨blk, off, none⟩) b) (hb : b.length = 4) : Calls Tryd.prog 32 #[.slice (some ⟨blk, off, none⟩) 4 cap] w fun e w' => e = .returned (.int .u32 (uw (BitVec.ofNat 32 (wordN b 0)))) ∧ Calm w w' := by
  obtain ⟨_, _, e, _, hc⟩ := hr (by intro e; rw [e] at hb; cases hb)
  cases e
  have g : ∀ j, j < 4 → w.cell? ⟨blk, off + j, none⟩ = some (.int .u8 ((b.getD j 0).toNat : Int)) := fun j hj => hc j _ (by rw [List.getD_eq_getElem?_getD, List.getElem?_eq_getElem (by omega)]; rfl)
  have c0 := g 0 (by decide)
  have c1 := g 1 (by decide)
  have c2 := g 2 (by decide)
  have c3 := g 3 (by decide)
  have l0 := (b.getD 0 0).toNat_lt
  have l1 := (b.getD 1 0).toNat_lt
  have l2 := (b.getD 2 0).toNat_lt
  have l3 := (b.getD 3 0).toNat_lt
  have hw : wordN b 0 = (b.getD 0 0).toNat + (b.getD 1 0).toNat * 256 + (b.getD 2 0).toNat * 65536 + (b.getD 3 0).toNat * 16777216 := rfl
  rw [uw_ofNat, hw]
  rw [Nat.add_zero] at c0
  generalize (b.getD 0 0).toNat = b0 at c0 l0 ⊢
  generalize (b.getD 1 0).toNat = b1 at c1 l1 ⊢
  generalize (b.getD 2 0).toNat = b2 at c2 l2 ⊢
  generalize (b.getD 3 0).toNat = b3 at c3 l3 ⊢
  have HN := Lib.hid (Nat.mod_eq_of_lt (show b0 + b1 * 256 + b2 * 65536 + b3 * 16777216 < 4294967296 by omega))
  rw [HN.out]
  clear hr hb hc g hw
  go_enter Tryd.func32, Tryd.ntmps32
  go_wp2_with fail
  go_quiet (fail)
  go_wp2_with fail
  go_ret
  exact ⟨by congr 2; try omega, ⟨nq, rfl⟩⟩
end Go.Proofs.YtoikgnmhnlcbhaaDoor.dg
