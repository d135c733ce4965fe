/-
  Appends of the call's own bytes; the program's fits, member, memberOf; slices.Equal and Write at one entry.
-/
import Derived.Test.YtgimiggffpokpaaGreatDoorTeL
import Derived.Lib.AppendStr
import Derived.Room.AppendZeros
import Derived.Deep.CutRange
namespace Go.Proofs.YtgimiggffpokpaaGreatDoor.ta
set_option maxRecDepth 100000
open Go.RowKit Go.Maps Go.Deep
open Go.Proofs.YtgimiggffpokpaaGreatDoor.pt (Tx tx tx_toL tx_size toL toL_len)
open Go.Proofs.YtgimiggffpokpaaGreatDoor.he (Bts Hd hdV sV DT WfH printV parseV)
set_option maxRecDepth 100000

/-- Bytes of the call's own. -/
def OB (w0 w : World) (v : Value) (l : Bts) : Prop := ∃ A cap, v = .slice A l.length cap ∧ Own w w0.heap.size v l ∧ Fr (fun _ => False) w0 w
theorem OB.still {w0 w w' : World} {v : Value} {l : Bts} (h : OB w0 w v l) (hF : Fr (fun _ => False) w w') : OB w0 w' v l := by
  obtain ⟨A, cap, rfl, h1, h2⟩ := h
  exact ⟨A, cap, rfl, h1.kept hF, h2.trans hF (fun _ _ e => e)⟩
theorem OB.fr {w0 w : World} {v : Value} {l : Bts} (h : OB w0 w v l) : Fr (fun _ => False) w0 w := by
  obtain ⟨_, _, _, _, h⟩ := h
  exact h
theorem OB.base {w0 w1 w : World} {v : Value} {l : Bts} (h : OB w1 w v l) (hF : Fr (fun _ => False) w0 w1) : OB w0 w v l := by
  obtain ⟨A, c, e, ⟨h1, h2⟩, h3⟩ := h
  refine ⟨A, c, e, ⟨h1, ?_⟩, hF.trans h3 (fun _ _ e => e)⟩
  rcases h2 with h2 | ⟨g, cap, cur, e, hg, r⟩
  · exact Or.inl h2
  · exact Or.inr ⟨g, cap, cur, e, Nat.le_trans hF.size hg, r⟩
theorem ob_nil {w0 w : World} (hF : Fr (fun _ => False) w0 w) : OB w0 w (.slice none 0 0) [] := ⟨none, 0, rfl, World.ownsRow_nil w w0.heap.size 5 1, hF⟩
/-- So many noughts as a text. -/
def zs (k : Nat) : ByteArray := ⟨(List.replicate k (0 : UInt8)).toArray⟩
theorem zs_size (k : Nat) : (zs k).size = k := by
  show (List.replicate k (0 : UInt8)).toArray.size = k
  simp
theorem zs_cells (k : Nat) : Lib.strCells (zs k) = bs (List.replicate k 0) := by
  unfold Lib.strCells zs bs
  rfl
theorem zero_cells (k : Nat) : Builtin.zeroCells (Value.int .u8 0).cells k = (bs (List.replicate k 0)).toArray := by
  apply Array.ext'
  have h1 : (Value.int IntKind.u8 0).cells = #[.int .u8 0] := rfl
  rw [h1]
  unfold Builtin.zeroCells bs
  simp only [List.map_replicate]
  apply List.ext_getElem
  · simp
  · intro j h2 h3
    simp [Nat.mod_one]
theorem run_append_number (w : World) (ty : TypeId) (A : Option Addr) (n c k : Nat) (h0 : 0 < k) (hb : n + k ≤ 1000000) :
    (Builtin.append_ #[22, 3] ty #[.slice A n c, .int .i64 (k : Int)]).run Tryz.prog w = (Builtin.append_ #[22, 9] ty #[.slice A n c, .string (zs k)]).run Tryz.prog w := by
  obtain ⟨i0, hi, hz0, hz1, hz2⟩ := info_parts infoB
  have hw : IntKind.i64.wrap (k : Int) = k := by rw [IntKind.wrap_i64]; omega
  have hneg : ¬ ((k : Int) < 0) := by omega
  have h48i : ¬ (281474976710656 < (k : Int) * (i0.bytes : Int)) := by rw [hz2]; omega
  have hns : ¬ (k * i0.size = 0) := by rw [hz1]; omega
  have hsz := zs_size k
  have hf : ∀ w', (Builtin.firstCells i0.size k (.string (zs k))).run Tryz.prog w' = .ok (bs (List.replicate k 0)).toArray w' := fun w' => by
    have := Lib.run_firstCells_string (P := Tryz.prog) w' i0.size (zs k)
    rw [hsz, zs_cells] at this
    exact this
  have hzc := zero_cells k
  have h63' : ¬ (9223372036854775807 < ((n : Int) + (k : Int))) := by omega
  have hbz : i0.bytes ≠ 0 := by rw [hz2]; decide
  by_cases hroom : n + k ≤ c
  · simp [Builtin.append_, run_underlying Tryz.underlying22, run_underlying Tryz.underlying3, run_underlying Tryz.underlying9, sizeOf, typeInfo, zeroValue, hi, hz0, asInt, asIntOf, hw, hneg, hns, h48i, Builtin.lenOf, hsz, hroom, hf, hzc]
  · have h48' : ¬ (281474976710656 < Builtin.nextslicecap (n + k) c * i0.bytes) := by
      rw [hz2]
      exact Nat.not_lt.2 (growslice_fits (by omega) (by omega))
    simp [Builtin.append_, run_underlying Tryz.underlying22, run_underlying Tryz.underlying3, run_underlying Tryz.underlying9, sizeOf, typeInfo, zeroValue, hi, hz0, asInt, asIntOf, hw, hneg, hns, h48i, Builtin.lenOf, hsz, hroom, hf, hzc, h63', hbz, h48', Question.forced]
theorem ob_of {w0 w w' : World} {v v' : Value} {l l' : Bts} {n : Nat} (h : OB w0 w v l) (hn : n = l'.length) (h2 : w'.ownsRow w0.heap.size 5 1 v' n (bs l')) (h3 : w.grownBy w' v.ownBlock) : ∃ A' cap', v' = .slice A' n cap' ∧ OB w0 w' (.slice A' n cap') l' := by
  subst hn
  obtain ⟨A0, c0, rfl, hown, hF⟩ := h
  have hF2 : Fr (fun _ => False) w0 w' := hF.grown h3 (fun k hk => Or.inr (by
    rcases hown.2 with ⟨e, _⟩ | ⟨g, cap, cur, e, hg, _⟩
    · rw [e] at hk; cases hk
    · rw [e] at hk; cases hk; exact hg))
  rcases id h2.2 with ⟨rfl, h0⟩ | ⟨g, cap', cur, rfl, r⟩
  · exact ⟨none, 0, by rw [h0], by rw [h0]; exact ⟨none, 0, by rw [h0], by unfold Own; exact h2, hF2⟩⟩
  · exact ⟨some ⟨g, 0, none⟩, cap', rfl, _, _, rfl, h2, hF2⟩
section
variable {ops : Array Oper} {rest : List Oper} {o : Oper} {a : Act} {w : World} {Q : Exit → Act → World → Prop}
theorem wpl_obB (hgd : o.guard = none) (x y : Operand) (ho : o.op = .call { callee := .builtin .append, args := #[x, y], argTypes := #[22, 22] }) (w0 : World) (v : Value) (l : Bts) (hx : a.eval x = v) (hv : OB w0 w v l)
    (B : Nat) (ad : Addr) (n cap : Nat) (m : Bts) (hy : a.eval y = .slice (some ad) n cap) (hn : n = m.length) (hs : Rd w B (some ad) m) (nn : Nat) (hnn : nn = l.length + m.length) (hl : nn ≤ 1000000)
    (h : ∀ A' cap' w', OB w0 w' (.slice A' nn cap') (l ++ m) → wpList Tryz.prog ops Q rest (a.put o.dst (.slice A' nn cap')) w') : wpList Tryz.prog ops Q (o :: rest) a w := by
  obtain ⟨i0, hi, hz0, hz1, hz2⟩ := info_parts infoB
  have hv2 := hv
  obtain ⟨A0, c0, rfl, hown, hF⟩ := hv
  subst hn
  subst hnn
  refine wpList_append_own w hgd x y 22 ho w0.heap.size 5 i0 (.int .u8 0) 1 1 Tryz.underlying22 hi hz0 hz1 hz2 rfl (by omega) _ l.length (bs l) hx hown ad m.length cap (bs m) hy (by rw [bs_length]; omega) hs.src (bs_one m) (by unfold maxLen; omega) (by omega) hF.size ?_
  intro v' w' h1 h2 h3
  obtain ⟨A', cap', rfl, h4⟩ := ob_of (l' := l ++ m) hv2 (by rw [List.length_append]) (by rw [bs_append]; exact h1) h2
  exact h A' cap' w' h4
theorem wpl_obS (hgd : o.guard = none) (x y : Operand) (ho : o.op = .call { callee := .builtin .append, args := #[x, y], argTypes := #[22, 9] }) (w0 : World) (v : Value) (l : Bts) (hx : a.eval x = v) (hv : OB w0 w v l)
    (s : ByteArray) (hy : a.eval y = .string s) (nn : Nat) (hnn : nn = l.length + s.size) (hl : nn ≤ 1000000)
    (h : ∀ A' cap' w', OB w0 w' (.slice A' nn cap') (l ++ s.toList) → wpList Tryz.prog ops Q rest (a.put o.dst (.slice A' nn cap')) w') : wpList Tryz.prog ops Q (o :: rest) a w := by
  obtain ⟨i0, hi0, hz0, hz1, hz2⟩ := info_parts infoB
  have hv2 := hv
  obtain ⟨A0, c0, rfl, hown, hF⟩ := hv
  subst hnn
  obtain ⟨v', w', hr, h2, h3, h4⟩ := Lib.run_append_own_string (P := Tryz.prog) w w0.heap.size 22 9 o.type 5 i0 Tryz.underlying22 Tryz.underlying9 hi0 hz0 hz1 hz2 _ l.length (bs l) hown s (by unfold maxLen; omega) (by omega) hF.size
  refine Lib.wpList_append_run w hgd x y 22 9 ho _ _ hx hy v' w' hr ?_
  have hsl : Lib.strCells s = bs s.toList := by unfold Lib.strCells bs; rw [toL]
  obtain ⟨A', cap', rfl, h5⟩ := ob_of (l' := l ++ s.toList) hv2 (by rw [List.length_append, toL_len]) (by rw [bs_append, ← hsl]; exact h2) h3
  exact h A' cap' w' h5
theorem wpl_obN (hgd : o.guard = none) (x y : Operand) (ho : o.op = .call { callee := .builtin .append, args := #[x, y], argTypes := #[22, 3] }) (w0 : World) (v : Value) (l : Bts) (hx : a.eval x = v) (hv : OB w0 w v l)
    (k : Nat) (i : Int) (hi : i = (k : Int)) (hy : a.eval y = .int .i64 i) (h0 : 0 < k) (nn : Nat) (hnn : nn = l.length + k) (hl : nn ≤ 1000000)
    (h : ∀ A' cap' w', OB w0 w' (.slice A' nn cap') (l ++ List.replicate k 0) → wpList Tryz.prog ops Q rest (a.put o.dst (.slice A' nn cap')) w') : wpList Tryz.prog ops Q (o :: rest) a w := by
  obtain ⟨i0, hi0, hz0, hz1, hz2⟩ := info_parts infoB
  have hv2 := hv
  obtain ⟨A0, c0, rfl, hown, hF⟩ := hv
  subst hi
  subst hnn
  have hs := zs_size k
  obtain ⟨v', w', hr, h2, h3, h4⟩ := Lib.run_append_own_string (P := Tryz.prog) w w0.heap.size 22 9 o.type 5 i0 Tryz.underlying22 Tryz.underlying9 hi0 hz0 hz1 hz2 _ l.length (bs l) hown (zs k) (by rw [hs]; unfold maxLen; omega) (by rw [hs]; omega) hF.size
  rw [← run_append_number w o.type A0 l.length c0 k h0 (by omega)] at hr
  refine Lib.wpList_append_run w hgd x y 22 3 ho _ _ hx hy v' w' hr ?_
  rw [hs] at h2
  obtain ⟨A', cap', rfl, h5⟩ := ob_of (l' := l ++ List.replicate k 0) hv2 (by rw [List.length_append, List.length_replicate]) (by rw [bs_append, ← zs_cells]; exact h2) h3
  exact h A' cap' w' h5
end
set_option maxHeartbeats 2000000 in
theorem pfits (w : World) (hD : DT w) (h : Hd) (hw : WfH h) : Calls Tryz.prog 25 #[hdV h] w fun e w' => e = .returned (.bool (decide ((printV h).2 = 0))) ∧ Fr (fun _ => False) w w' := by
  have HP := Lib.hid (fun o => he.head_all.print (w.alloc o) h hw (hD.keep ((Fr.refl _ w).alloc o)))
  have HF := Lib.hid (fun o => (Fr.refl (fun _ => False) w).alloc o)
  obtain ⟨z, hz⟩ : ∃ z, z = (printV h).2 := ⟨_, rfl⟩
  rw [← hz] at HP ⊢
  have hd : decide (z = 0) = (z == 0) := by
    by_cases e : z = 0
    · rw [decide_eq_true e]; exact (beq_iff_eq.2 e).symm
    · rw [decide_eq_false e]; exact (beq_eq_false_iff_ne.2 e).symm
  rw [hd]
  clear hz hd hw hD
  unfold hdV at HP ⊢
  go_enter Tryz.func25, Tryz.ntmps25
  go_wp2_with fail
  refine (HP.out _).mono ?_
  rintro e w1 ⟨A, c, rfl, _, hF1⟩
  have HF1 := Lib.hid ((HF.out _).trans hF1 (fun _ _ e => e))
  clear hF1
  go_wp2_with fail
  go_ret
  exact ⟨rfl, HF1.out⟩
set_option maxHeartbeats 4000000 in
theorem pmem (w : World) (hD : DT w) (N L : ByteArray) (m s : Int) (k : Nat) (D : ByteArray) (d f q : Nat) (P : Bts) (h : Hd) (hh : hdV h = .agg #[.string N, .string L, .int .i64 m, .int .i64 (d : Int), .int .u8 (k : Int)]) (hw : WfH h) (hp : printV h = (P, 0)) (hP : P.length = 512) (hd : D.size = d) (hd6 : d ≤ 1000) (hf : f = fullN (d : Int)) (hf6 : f ≤ 2000) (hq : q = f - d) (hq0 : 0 < q) (hdf : d ≤ f) (nn : Nat) (hnn : nn = 512 + d + q) :
    Calls Tryz.prog 27 #[.agg #[.string N, .string L, .int .i64 m, .int .i64 s, .int .u8 (k : Int)], .string D] w fun e w' => ∃ A c, e = .returned (.tuple #[.slice A nn c, .int .i64 0]) ∧ OB w w' (.slice A nn c) (P ++ D.toList ++ List.replicate q 0) := by
  have HF := Lib.hid (fun o => (Fr.refl (fun _ => False) w).alloc o)
  have HP := Lib.hid (fun wx (hF : Fr (fun _ => False) w wx) => he.head_all.print wx h hw (hD.keep hF))
  rw [hh, hp] at HP
  have HP := Lib.hid (show ∀ wx, Fr (fun _ => False) w wx → Calls Tryz.prog 37 #[.agg #[.string N, .string L, .int .i64 m, .int .i64 (d : Int), .int .u8 (k : Int)]] wx fun e w' => ∃ A cap, e = .returned (.tuple #[.slice A 512 cap, .int .i64 0]) ∧ OB w w' (.slice A 512 cap) P from fun wx hF => (HP.out wx hF).mono fun e w' ⟨A, cap, he, ho, hF2⟩ => ⟨A, cap, by rw [he, ← hP], OB.base (w1 := wx) ⟨A, cap, by rw [hP], by rw [← hP]; exact ho, hF2⟩ hF⟩)
  have HFI := Lib.hid (fun wx => pfilled wx d (by omega))
  rw [← hf] at HFI
  have hqw : IntKind.i64.wrap ((f : Int) - (d : Int)) = (q : Int) := by rw [IntWalk.i64_in _ (by omega)]; omega
  have HN := Lib.hid (⟨hP, hd, hnn⟩ : _ ∧ _ ∧ _)
  have hn1 : 512 + d ≤ 2000 := by omega
  have hn2 : nn ≤ 5000 := by omega
  clear hD hh hw hp hP hf hq hnn
  go_enter Tryz.func27, Tryz.ntmps27
  go_wp2_with fail
  refine (HP.out _ (HF.out _)).mono ?_
  rintro e w1 ⟨A, c, rfl, ho⟩
  have HO := Lib.hid ho
  clear ho HP
  go_wp2_with (first
    | (at_builtin; refine wpl_obS rfl (.tmp 19) (.tmp 20) rfl w _ P rfl HO.out D rfl (512 + d) (by rw [HN.out.1, HN.out.2.1]) (by omega) ?_; intro A2 c2 w2 h2; have HO2 := Lib.hid h2; clear h2)
    | (go_at_call 32; refine (HFI.out _).mono ?_; rintro e w' ⟨rfl, rfl⟩)
    | (at_builtin; refine wpl_obN rfl (.tmp 22) (.tmp 28) rfl w _ _ rfl HO2.out q _ rfl rfl hq0 nn (by rw [List.length_append, toL_len, HN.out.1, HN.out.2.1]; exact HN.out.2.2) (by omega) ?_; intro A3 c3 w3 h3; have HO3 := Lib.hid h3; clear h3))
  go_ret2
  exact ⟨_, _, rfl, HO3.out⟩
end Go.Proofs.YtgimiggffpokpaaGreatDoor.ta
