/-
  The library's FormatInt to the base 8, its Repeat of a 0; the program's numeral.
-/
import Derived.Test.YtgimiggffpokpaaGreatDoorHfD
namespace Go.Proofs.YtgimiggffpokpaaGreatDoor.he
set_option maxRecDepth 100000
open Go.RowKit Go.Maps
set_option maxRecDepth 100000

set_option maxHeartbeats 1000000 in
theorem pipow (w : World) : Calls Tryz.prog 90 #[.int .i64 8] w fun e w' => e = .returned (.bool true) ∧ w = w' := by
  have hb : bits .and .i64 8 7 = 0 := by decide
  go_enter Tryz.func90, Tryz.ntmps90
  go_wp2_with fail
  go_ret
  exact ⟨rfl, rfl⟩
set_option maxHeartbeats 1000000 in
theorem ptz64 (w : World) (hT : DT w) : Calls Tryz.prog 113 #[.int .u64 8] w fun e w' => e = .returned (.int .i64 3) ∧ w = w' := by
  have c := hT.tz
  have h0 : IntKind.u64.wrap (-8) = 18446744073709551608 := by decide
  have h1 : bits .and .u64 8 18446744073709551608 = 8 := by decide
  have h2 : IntKind.u64.wrap 2286961704410830920 = 2286961704410830920 := by decide
  clear hT
  go_enter Tryz.func113, Tryz.ntmps113
  go_wp2_with fail
  go_ret
  exact ⟨rfl, rfl⟩
set_option maxHeartbeats 1000000 in
theorem ptz (w : World) (hT : DT w) : Calls Tryz.prog 91 #[.int .u64 8] w fun e w' => e = .returned (.int .i64 3) ∧ w = w' := by
  have H := Lib.hid (ptz64 w hT)
  clear hT
  go_enter Tryz.func91, Tryz.ntmps91
  go_wp2_with fail
  refine H.out.mono ?_
  rintro e w' ⟨rfl, rfl⟩
  go_wp2_with fail
  go_ret
  exact ⟨rfl, rfl⟩

/-! ### formatBits -/
theorem zb65 : zb 65 = (bs (List.replicate 65 0)).toArray := rfl
theorem run_alloc65 (w : World) : (Instr.alloc 129 true (.tuple #[])).run Tryz.prog w = .ok (.pointer (some ⟨w.heap.size, 0, none⟩)) (w.alloc (.cells (zb 65) 129)) := by
  kernel_rfl
section
variable {ops : Array Oper} {rest : List Oper} {o : Oper} {a : Act} {w : World} {Q : Exit → Act → World → Prop}
theorem wpList_alloc65 (hg : o.guard = none) (ho : o.op = .alloc 129)
    (h : wpList Tryz.prog ops Q rest (a.put o.dst (.pointer (some ⟨w.heap.size, 0, none⟩))) (w.alloc (.cells (zb 65) 129))) : wpList Tryz.prog ops Q (o :: rest) a w := by
  refine wpList_plain hg fun K hK => ?_
  unfold Oper.wp
  simp only [execOp, ho, Sem.run_bind, run_alloc65, Result.andThen]
  exact hK _ _ h
end
theorem run_digit (w : World) (d : Nat) (hd : d < 8) : (Instr.index 9 (.string ⟨#[48, 49, 50, 51, 52, 53, 54, 55, 56, 57, 97, 98, 99, 100, 101, 102, 103, 104, 105, 106, 107, 108, 109, 110, 111, 112, 113, 114, 115, 116, 117, 118, 119, 120, 121, 122]⟩) (.int .u64 (d : Int))).run Tryz.prog w = .ok (.int .u8 ((48 + d : Nat) : Int)) w := by
  rcases (show d = 0 ∨ d = 1 ∨ d = 2 ∨ d = 3 ∨ d = 4 ∨ d = 5 ∨ d = 6 ∨ d = 7 by omega) with rfl | rfl | rfl | rfl | rfl | rfl | rfl | rfl <;> kernel_rfl
theorem mask7 (u : Nat) (h : u < 68719476736) : bits .and .u64 (u : Int) 7 = ((u % 8 : Nat) : Int) := by
  have h1 : (BitVec.ofInt 64 (u : Int)).toNat = u := by rw [BitVec.ofInt_natCast, BitVec.toNat_ofNat]; exact Nat.mod_eq_of_lt (by omega)
  have h2 : (BitVec.ofInt 64 (7 : Int)).toNat = 7 := by decide
  show IntKind.u64.wrap ((BitVec.ofInt 64 (u : Int) &&& BitVec.ofInt 64 7).toNat : Int) = _
  rw [BitVec.toNat_and, h1, h2, show (7 : Nat) = 2 ^ 3 - 1 from rfl, Nat.and_two_pow_sub_one_eq_mod]
  have h3 : IntKind.u64.wrap ((u % 8 : Nat) : Int) = ((u % 8 : Nat) : Int) % 18446744073709551616 := by
    unfold IntKind.wrap
    simp only
    rw [show IntKind.u64.signed = false from rfl]
    rfl
  rw [h3]
  omega
/-- The array of 65 bytes at g. -/
def Buf (w0 w : World) (g : Nat) (L : Bts) : Prop := w.heap[g]? = some (.cells (bs L).toArray 129 (0, 0)) ∧ w0.heap.size ≤ g ∧ L.length = 65 ∧ Fr (fun _ => False) w0 w
theorem Buf.put {w0 w : World} {g : Nat} {L : Bts} (h : Buf w0 w g L) (k : Nat) (hk : k < 65) (x : UInt8) : (∃ v, w.cell? ⟨g, k, none⟩ = some v) ∧ w.frozen? ⟨g, k, none⟩ = false ∧ Buf w0 (w.setCell ⟨g, k, none⟩ (.int .u8 (x.toNat : Int))) g (L.set k x) := by
  obtain ⟨h1, h2, h3, h4⟩ := h
  refine ⟨?_, freeAt h1 k, ?_, h2, by rw [List.length_set]; exact h3, h4.setCell (p := ⟨g, k, none⟩) (Or.inr h2) _⟩
  · refine ⟨Value.int .u8 ((L[k]'(by omega)).toNat : Int), ?_⟩
    rw [cellAt h1 k, List.getElem?_toArray, bs_get, List.getElem?_eq_getElem (by omega)]
    rfl
  · have h5 := heap_setCell_same w g k _ _ (Value.int .u8 (x.toNat : Int)) h1
    rw [h5]
    congr 2
    rw [List.setIfInBounds_toArray, bs_set]
theorem arr65 : Tryz.prog.underlying 129 = some (.array (Tryz.prog.arrayLen 129) (Tryz.prog.elem 129)) := by kernel_rfl
theorem len65 : Tryz.prog.arrayLen 129 = 65 := by kernel_rfl
theorem run_slice65 (w : World) (g k : Nat) (hk : k < 65) : (Instr.sliceAt 129 (.pointer (some ⟨g, 0, none⟩)) (some (.int .i64 (k : Int))) none none).run Tryz.prog w = .ok (.slice (some ⟨g, k, none⟩) (65 - k) (65 - k)) w := by
  rw [run_sliceAt_array_l w 129 ⟨g, 0, none⟩ arr65 .i64 k (by omega) (by rw [len65]; omega)]
  have hs : (sizeOf (Tryz.prog.elem 129)).run Tryz.prog w = .ok 1 w := by kernel_rfl
  rw [hs, len65]
  unfold slicedAt
  simp only [Result.andThen, Int.toNat_natCast, Nat.mul_one]
  rw [if_neg (by omega), add_plain, Nat.zero_add]
theorem drop_set {L : Bts} {k : Nat} (hk : k < L.length) (x : UInt8) : (L.set k x).drop k = x :: L.drop (k + 1) := by
  rw [List.drop_eq_getElem_cons (by rw [List.length_set]; exact hk), List.getElem_set_self, List.drop_set_of_lt (Nat.lt_succ_self k)]
/-- What formatBits answers. -/
def FmtA (x : Nat) (w : World) (e : Ending) (w' : World) : Prop := ∃ j, x / 8 ^ j < 8 ∧ (j = 0 ∨ 8 ^ j ≤ x) ∧ e = .returned (.tuple #[.slice none 0 0, .string (tx (octL (j + 1) x))]) ∧ Fr (fun _ => False) w w'
set_option maxHeartbeats 8000000 in
theorem pfmtBits (w : World) (hT : DT w) (x : Nat) (hx : x < 68719476736) : Calls Tryz.prog 65 #[.slice none 0 0, .int .u64 (x : Int), .int .i64 8, .bool false, .bool false] w (FmtA x w) := by
  have HP := Lib.hid (fun wx => pipow wx)
  have HZ := Lib.hid (fun wx hF => ptz wx (hT.keep hF))
  have HF := Lib.hid ((Fr.refl (fun _ => False) w).alloc (.cells (zb 65) 129))
  have HB := Lib.hid (show Buf w (w.alloc (.cells (zb 65) 129)) w.heap.size (List.replicate 65 0) from ⟨by rw [zb65]; exact heap_alloc_new _ _, Nat.le_refl _, List.length_replicate, (Fr.refl _ w).alloc _⟩)
  obtain ⟨w1, hw1⟩ : ∃ v, v = w.alloc (.cells (zb 65) 129) := ⟨_, rfl⟩
  have H1 := Lib.hid (HP.out w1)
  have H2 := Lib.hid (HZ.out w1 (by rw [hw1]; exact HF.out))
  rw [← hw1] at HB HF
  have HW1 := Lib.hid hw1
  clear hT HP HZ hw1
  go_enter Tryz.func65, Tryz.ntmps65
  go_wp2_with ((with_reducible refine wpList_alloc65 rfl rfl ?_); (rw [← HW1.out]))
  refine H1.out.mono ?_
  rintro e w' ⟨rfl, rfl⟩
  go_wp2_with fail
  refine H2.out.mono ?_
  rintro e w' ⟨rfl, rfl⟩
  clear H1 H2
  go_wp2_with fail
  go_loopw [1, 13] (fun v1 v13 wr => ∃ j u : Nat, j ≤ 20 ∧ u < 68719476736 ∧ v1 = .int .u64 u ∧ v13 = .int .i64 ((65 - j : Nat) : Int) ∧ Hid (u = x / 8 ^ j ∧ (j = 0 ∨ 8 ^ j ≤ x) ∧ ∃ L, Buf w wr w.heap.size L ∧ L.drop (65 - j) = octL j x)) (fun v _ _ => (intOf v).toNat)
  case atStart => exact ⟨0, x, by decide, hx, rfl, rfl, (show _ ∧ _ ∧ _ from ⟨by rw [Nat.pow_zero, Nat.div_one], Or.inl rfl, _, HB.out, by rw [List.drop_of_length_le (by rw [List.length_replicate]; omega)]; rfl⟩)⟩
  case round =>
    obtain ⟨j, u, hj, hu, rfl, rfl, HC⟩ := hrel
    obtain ⟨i, hi⟩ : ∃ i, i = 65 - j := ⟨_, rfl⟩
    have HI := Lib.hid hi
    obtain ⟨k, hk⟩ : ∃ k, k = 64 - j := ⟨_, rfl⟩
    have hk65 : k < 65 := by omega
    have hk0 : (0 : Int) ≤ (k : Int) := by omega
    have hkB : (k : Int) < 65 := by omega
    have hik : (i : Int) - 1 = (k : Int) := by omega
    have HKJ := Lib.hid (show k + 1 = 65 - j ∧ k = 65 - (j + 1) by omega)
    rw [← hi] at HC ⊢
    have hpw : 8 ≤ u → 8 ^ (j + 1) ≤ x := fun h => by
      rw [HC.out.1] at h
      have h2 := (Nat.le_div_iff_mul_le (Nat.pow_pos (by decide : 0 < 8))).1 h
      rw [Nat.pow_succ]
      omega
    obtain ⟨d, hd⟩ : ∃ d, d = u % 8 := ⟨_, rfl⟩
    have hd8 : d < 8 := by omega
    obtain ⟨y, hy⟩ : ∃ y, y = 48 + d := ⟨_, rfl⟩
    have hyt : (UInt8.ofNat y).toNat = y := by rw [UInt8.toNat_ofNat']; omega
    obtain ⟨-, hjx, L, HBF, HDR⟩ := HC.out
    obtain ⟨⟨vv, hcell⟩, hfro, hnew⟩ := HBF.put k hk65 (UInt8.ofNat y)
    rw [hyt] at hnew
    have hdr2 : (L.set k (UInt8.ofNat y)).drop k = octL (j + 1) x := by
      rw [drop_set (by rw [HBF.2.2.1]; exact hk65), octL_cons, HKJ.out.1, ← HI.out, HDR, hy, hd, HC.out.1]
    have HNW := Lib.hid (⟨hnew, hdr2⟩ : _ ∧ _)
    have HDJ := Lib.hid (⟨hi, hk, hd, hy⟩ : _ ∧ _ ∧ _ ∧ _)
    have hix := fun wx : World => run_digit wx d hd8
    rw [← hy] at hix
    by_cases hge : 8 ≤ u
    · have HPW := Lib.hid (hpw hge)
      have hmask := mask7 u hu
      rw [← hd] at hmask
      have HJB := Lib.hid (show j ≤ 11 from by
        apply Decidable.byContradiction
        intro hn
        have h1 : (8 : Nat) ^ 12 ≤ 8 ^ (j + 1) := Nat.pow_le_pow_right (by decide) (by omega)
        have h2 : (8 : Nat) ^ 12 = 68719476736 := by decide
        have := HPW.out
        omega)
      clear hi hk hd hy hyt hnew hdr2 HBF hjx HDR hpw
      go_wp2_with fail
      go_roundw
      case rel => exact ⟨j + 1, u / 8, by have := HJB.out; omega, by omega, by go_num, by rw [← HKJ.out.2], (show _ ∧ _ ∧ _ from ⟨by rw [HC.out.1, Nat.div_div_eq_div_mul, Nat.pow_succ], Or.inr HPW.out, _, HNW.out.1, by rw [← HKJ.out.2]; exact HNW.out.2⟩)⟩
      case measure => simp [intOf]; omega
    · have hdu : d = u := by omega
      rw [hdu] at hix
      have hsl := fun wx : World => run_slice65 wx w.heap.size k hk65
      have HRD := Lib.hid (show Rd (wr.setCell ⟨w.heap.size, k, none⟩ (.int .u8 (y : Int))) (wr.setCell ⟨w.heap.size, k, none⟩ (.int .u8 (y : Int))).heap.size (some ⟨w.heap.size, k, none⟩) (octL (j + 1) x) from fun _ => ⟨w.heap.size, k, rfl, (Array.getElem?_eq_some_iff.1 HNW.out.1.1).1, fun q z hq => by
        rw [cellAt HNW.out.1.1, List.getElem?_toArray, bs_get]
        have h1 : (L.set k (UInt8.ofNat y))[k + q]? = some z := by
          rw [← List.getElem?_drop, HNW.out.2]
          exact hq
        rw [h1]
        rfl⟩)
      have hcv := text_conv HRD.out (65 - k) (65 - k) (by rw [octL_length, HKJ.out.2]; omega)
      rw [List.take_of_length_le (by rw [octL_length, HKJ.out.2]; omega)] at hcv
      have HEND := Lib.hid (show FmtA x w (.returned (.tuple #[.slice none 0 0, .string (tx (octL (j + 1) x))])) (wr.setCell ⟨w.heap.size, k, none⟩ (.int .u8 (y : Int))) from ⟨j, by rw [← HC.out.1]; omega, hjx, rfl, HNW.out.1.2.2.2⟩)
      obtain ⟨S, hS⟩ : ∃ S, S = tx (octL (j + 1) x) := ⟨_, rfl⟩
      rw [← hS] at hcv HEND
      clear hi hk hd hy hyt hnew hdr2 HBF hjx HDR hpw hdu hS
      go_wp2_with fail
      go_ret2
      exact HEND.out

/-! ### FormatInt, Repeat, numeral -/
/-- What FormatInt answers. -/
def FmtS (x : Nat) (w : World) (e : Ending) (w' : World) : Prop := ∃ j, x / 8 ^ j < 8 ∧ (j = 0 ∨ 8 ^ j ≤ x) ∧ e = .returned (.string (tx (octL (j + 1) x))) ∧ Fr (fun _ => False) w w'
set_option maxHeartbeats 2000000 in
theorem pfmt0 (w : World) (hT : DT w) (x : Nat) (hx : x < 68719476736) : Calls Tryz.prog 38 #[.int .i64 (x : Int), .int .i64 8] w (FmtS x w) := by
  have H := Lib.hid (pfmtBits w hT x hx)
  have hx0 : ¬ ((x : Int) < 0) := by omega
  clear hT
  go_enter Tryz.func38, Tryz.ntmps38
  go_wp2_with fail
  refine H.out.mono ?_
  intro e w1 hP
  obtain ⟨j, h1, h2, rfl, hF⟩ := hP
  have HEND := Lib.hid (show FmtS x w (.returned (.string (tx (octL (j + 1) x)))) w1 from ⟨j, h1, h2, rfl, hF⟩)
  obtain ⟨S, hS⟩ : ∃ S, S = tx (octL (j + 1) x) := ⟨_, rfl⟩
  rw [← hS] at HEND ⊢
  clear h1 h2 hF hS H
  go_wp2_with fail
  go_ret
  exact HEND.out
set_option maxHeartbeats 2000000 in
theorem pfmt (w : World) (hT : DT w) (x : Nat) (hx : x < 68719476736) : Calls Tryz.prog 85 #[.int .i64 (x : Int), .int .i64 8] w (FmtS x w) := by
  have H := Lib.hid (pfmt0 w hT x hx)
  clear hT hx
  go_enter Tryz.func85, Tryz.ntmps85
  go_wp2_with fail
  refine H.out.mono ?_
  intro e w1 hP
  obtain ⟨j, h1, h2, rfl, hF⟩ := hP
  have HEND := Lib.hid (show FmtS x w (.returned (.string (tx (octL (j + 1) x)))) w1 from ⟨j, h1, h2, rfl, hF⟩)
  obtain ⟨S, hS⟩ : ∃ S, S = tx (octL (j + 1) x) := ⟨_, rfl⟩
  rw [← hS] at HEND ⊢
  clear h1 h2 hF hS H
  go_wp2_with fail
  go_ret
  exact HEND.out
theorem repExtra : Builder.Extra Tryz.prog Tryz.rep_ren := {
  sizeBuilder := by kernel_rfl
  liesBuilder := by kernel_rfl
  t5 := Tryz.rep.t5
  a5 := Tryz.rep.a5
  z5 := Tryz.rep.z5
  v5 := Tryz.rep.v5
  infoByte := by kernel_rfl
  cellsByte := by kernel_rfl
  sizeByte := by kernel_rfl
  neB5 := by decide }
theorem repeat_one : ∀ c : Nat, Lib.repeatL [48] c = List.replicate c 48
  | 0 => rfl
  | c + 1 => by
    have h := repeat_one c
    show [48] ++ Lib.repeatL [48] c = _
    rw [h]
    rfl
theorem prepeat (w : World) (c : Nat) (hc : c ≤ 100) : Calls Tryz.prog 86 #[.string ⟨#[48]⟩, .int .i64 (c : Int)] w fun e w' => e = .returned (.string (tx (List.replicate c 48))) ∧ Fr (fun _ => False) w w' := by
  have h := Any.strings_Repeat Tryz.rep repExtra (tx [48]) c w (by omega) (by show 1 * c ≤ _; omega)
  refine h.mono ?_
  rintro e w' ⟨he, hb⟩
  refine ⟨he.trans ?_, Fr.ofBelow hb (fun i hi _ => hi)⟩
  rw [show (tx [48]).data.toList = [48] from rfl, repeat_one]
theorem octL_pad {x m : Nat} (h : x < 8 ^ m) : ∀ c : Nat, octL (c + m) x = List.replicate c 48 ++ octL m x
  | 0 => by rw [Nat.zero_add]; rfl
  | c + 1 => by
    rw [show c + 1 + m = c + m + 1 by omega, octL_cons, octL_pad h c, Nat.div_eq_of_lt (Nat.lt_of_lt_of_le h (Nat.pow_le_pow_right (by decide) (by omega)))]
    rfl
set_option maxHeartbeats 2000000 in
theorem pnumeral (w : World) (hT : DT w) (x k : Nat) (hk : 1 ≤ k) (hk2 : k ≤ 11) (hx : x < 8 ^ k) : Calls Tryz.prog 61 #[.int .i64 (x : Int), .int .i64 (k : Int)] w fun e w' => e = .returned (.string (tx (octL k x))) ∧ Fr (fun _ => False) w w' := by
  have hxB : x < 68719476736 := by
    have h1 : (8 : Nat) ^ k ≤ 8 ^ 11 := Nat.pow_le_pow_right (by decide) hk2
    have h2 : (8 : Nat) ^ 11 = 8589934592 := by decide
    omega
  have H := Lib.hid (pfmt w hT x hxB)
  have HX := Lib.hid hx
  clear hT hx hxB
  go_enter Tryz.func61, Tryz.ntmps61
  go_wp2_with fail
  refine H.out.mono ?_
  intro e w1 hP
  obtain ⟨j, h1, h2, rfl, hF⟩ := hP
  have hjk : j + 1 ≤ k := by
    apply Decidable.byContradiction
    intro hn
    rcases h2 with h2 | h2
    · omega
    · have h3 : (8 : Nat) ^ k ≤ 8 ^ j := Nat.pow_le_pow_right (by decide) (by omega)
      have := HX.out
      omega
  have hxm : x < 8 ^ (j + 1) := by
    rw [Nat.pow_succ, Nat.mul_comm]
    exact (Nat.div_lt_iff_lt_mul (Nat.pow_pos (by decide : 0 < 8))).1 h1
  have HPD := Lib.hid (octL_pad hxm (k - (j + 1)))
  obtain ⟨c, hc⟩ : ∃ c, c = k - (j + 1) := ⟨_, rfl⟩
  have hkc : k = c + (j + 1) := by omega
  obtain ⟨m, hm⟩ : ∃ m, m = j + 1 := ⟨_, rfl⟩
  rw [← hm] at hkc HPD ⊢
  rw [show k - m = c by omega, ← hkc] at HPD
  have hsz : (tx (octL m x)).size = m := by show (octL m x).toArray.size = m; rw [List.size_toArray, octL_length]
  have HR := Lib.hid (prepeat w1 c (by omega))
  have HF1 := Lib.hid hF
  obtain ⟨S, hS⟩ : ∃ S, S = tx (octL m x) := ⟨_, rfl⟩
  obtain ⟨R, hR⟩ : ∃ R, R = tx (List.replicate c 48) := ⟨_, rfl⟩
  have HE := Lib.hid (show R ++ S = tx (octL k x) from by rw [hS, hR, tx_app, tx_toL, tx_toL, HPD.out])
  have hRs : R.size = c := by rw [hR]; show (List.replicate c (48 : UInt8)).toArray.size = c; rw [List.size_toArray, List.length_replicate]
  rw [← hS] at hsz ⊢
  rw [← hR] at HR
  have hki : (k : Int) - (S.size : Int) = (c : Int) := by omega
  have hsum : R.size + S.size ≤ 9223372036854775807 := by omega
  clear hS hR h1 h2 hjk hxm hc hkc hm hsz hRs hF H HPD hk
  go_wp2_with fail
  refine HR.out.mono ?_
  rintro e w2 ⟨rfl, hF2⟩
  have HF2 := Lib.hid (HF1.out.trans hF2 (fun _ _ e => e))
  clear hF2 HR
  go_wp2_with fail
  go_ret
  exact ⟨by rw [← HE.out]; rfl, HF2.out⟩
end Go.Proofs.YtgimiggffpokpaaGreatDoor.he
