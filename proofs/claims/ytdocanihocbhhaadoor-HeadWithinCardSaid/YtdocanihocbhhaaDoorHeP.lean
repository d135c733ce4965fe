/-
  The document's Parse.
-/
import Derived.Test.YtdocanihocbhhaaDoorHeO
import Derived.BigQuiet
namespace Go.Proofs.YtdocanihocbhhaaDoor.he
set_option maxRecDepth 100000
open Go.RowKit Go.Maps
set_option maxRecDepth 100000

theorem fld_rd {w : World} {B blk off : Nat} {b : Bts} (hr : Rd w B (some ⟨blk, off, none⟩) b) (k n : Nat) : Rd w B (some ⟨blk, off + k, none⟩) (fld b k n) := fun hne => by
  have hb : b ≠ [] := by
    intro e
    apply hne
    unfold fld
    rw [e, List.drop_nil, List.take_nil]
  obtain ⟨blk2, off2, e, hlt, hc⟩ := hr hb
  cases e
  refine ⟨blk, off + k, rfl, hlt, fun j x hj => ?_⟩
  have h2 : b[k + j]? = some x := by
    unfold fld at hj
    rw [List.getElem?_take] at hj
    split at hj
    · rw [List.getElem?_drop] at hj
      exact hj
    · cases hj
  have := hc (k + j) x h2
  rw [← Nat.add_assoc] at this
  exact this
theorem fld_len {b : Bts} {k n : Nat} (h : k + n ≤ b.length) : (fld b k n).length = n := by
  unfold fld
  rw [List.length_take, List.length_drop]
  omega
/-- What the chapter's first test says of the bytes at 257. -/
theorem ustar_eq (b : Bts) : (((tx (fld b 257 8)).toList == [117, 115, 116, 97, 114, 0, 48, 48]) = true ∧ fld b 257 8 = ustar) ∨ (((tx (fld b 257 8)).toList == [117, 115, 116, 97, 114, 0, 48, 48]) = false ∧ fld b 257 8 ≠ ustar) := by
  rw [tx_toL]
  by_cases h : fld b 257 8 = ustar
  · exact Or.inl ⟨beq_iff_eq.2 h, h⟩
  · exact Or.inr ⟨beq_eq_false_iff_ne.2 h, h⟩
theorem octal_lt (b : Bts) : (octalV b).1 < 8589934592 := by
  rcases octal_cases b with h | ⟨h, h1, h2, _⟩
  · rw [h]; decide
  · rw [h]
    have h3 := num8_lt (digB b) (fun y hy => by
      unfold digB at hy
      exact List.all_eq_true.1 List.all_takeWhile y hy)
    have h4 : 8 ^ (digB b).length ≤ 8 ^ 11 := Nat.pow_le_pow_right (by omega) h2
    have h5 : (8 : Nat) ^ 11 = 8589934592 := by decide
    show ((num8 (digB b) : Nat) : Int) < _
    omega
theorem oct_fld {w : World} {B cap blk off : Nat} {b : Bts} (hr : Rd w B (some ⟨blk, off, none⟩) b) (k n : Nat) (h : k + n ≤ 512 ∧ b.length = 512) :
    Calls Tryd.prog 19 #[.slice (some ⟨blk, off + k, none⟩) n (cap - k)] w fun e w' => e = .returned (.tuple #[.int .i64 (octalV (fld b k n)).1, .int .i64 (octalV (fld b k n)).2]) ∧ w = w' := by
  have hl : (fld b k n).length = n := fld_len (by omega)
  have := roctal w (some ⟨blk, off + k, none⟩) (cap - k) B (fld b k n) (fld_rd hr k n) (by omega)
  rw [hl] at this
  exact this
theorem text_fld {w : World} {B cap blk off : Nat} {b : Bts} (hr : Rd w B (some ⟨blk, off, none⟩) b) (k n : Nat) (hc : k + n ≤ cap) (h : k + n ≤ 512 ∧ b.length = 512) :
    Calls Tryd.prog 27 #[.slice (some ⟨blk, off + k, none⟩) n (cap - k)] w fun e w' => e = .returned (.string (tx (textL (fld b k n)))) ∧ w = w' := by
  have hl : (fld b k n).length = n := fld_len (by omega)
  have := rtext w ⟨blk, off + k, none⟩ (cap - k) B (fld b k n) (fld_rd hr k n) (by omega) (by omega)
  rw [hl] at this
  exact this
theorem str_dec (l : Bts) : (tx l = ⟨#[]⟩ ∧ l = []) ∨ (((tx l).toList == (⟨#[]⟩ : ByteArray).toList) = false ∧ ((tx l).toList == []) = false ∧ l ≠ []) := by
  by_cases h : l = []
  · exact Or.inl ⟨by rw [h], h⟩
  · exact Or.inr ⟨(str_ne h).1, (str_ne h).2, h⟩
theorem parse_bad {b : Bts} (h : ¬ headB b) : parseV b = (noHd, 130) := by unfold parseV; rw [if_neg h]
abbrev noV : Value := .agg #[.string ⟨#[]⟩, .string ⟨#[]⟩, .int .i64 0, .int .i64 0, .int .u8 0]
abbrev tup (v : Value) (z : Int) : Ending := .returned (.tuple #[v, .int .i64 z])
theorem results_rec {fn : Func} {p q : Tmp} (h : fn.results = #[.cell p 25, .tmp q]) (tmps : Array Value) (w : World) (g : Nat) (cs : Array Value) (v : Value) (hs : cs.size = 5)
    (hp : tmps.getD p undef = .pointer (some ⟨g, 0, none⟩)) (hv : tmps.getD q undef = v) (hg : w.heap[g]? = some (.cells cs 25 (0, 0))) :
    (results fn tmps).run Tryd.prog w = .ok (.tuple #[.agg cs, v]) w := by
  have hp' : tmps[p]?.getD undef = .pointer (some ⟨g, 0, none⟩) := by simpa using hp
  have hq' : tmps[q]?.getD undef = v := by simpa using hv
  have hr := run_loadVar_row (P := Tryd.prog) w g 25 25 cs (0, 0) _ hg Tryd.underlying25 rfl (by rw [hs]; kernel_rfl)
  simp [results, h, hp', hq', asAddr, hr]
/-- A variable for a header in which nothing is yet. -/
abbrev noRec : Obj := .cells #[.string ⟨#[]⟩, .string ⟨#[]⟩, .int .i64 0, .int .i64 0, .int .u8 0] 25
theorem head_eq1 {b : Bts} {k k2 : UInt8} {nm lk : ByteArray} {m z : Int} (hp : textL (fld b 345 155) = []) (hk : b.getD 156 0 = k) (h : (if k = 0 then (48 : UInt8) else k) = k2) (hn : nm = tx (textL (fld b 0 100))) (hl : lk = tx (textL (fld b 157 100))) (hm : m = (octalV (fld b 100 8)).1) (hz : z = (octalV (fld b 124 12)).1) :
    hdV (headOf b) = .agg #[.string nm, .string lk, .int .i64 (m % 4096), .int .i64 z, .int .u8 (k2.toNat : Int)] := by
  have h1 : nameV b = textL (fld b 0 100) := by unfold nameV; rw [if_pos hp]
  have h2 : kindV (b.getD 156 0) = k2 := by unfold kindV; rw [hk]; exact h
  unfold headOf
  rw [h1, h2, hn, hl, hm, hz]
theorem tx_app (a b : ByteArray) : a ++ b = tx (a.toList ++ b.toList) := by
  have h : (a ++ b).toList = a.toList ++ b.toList := by
    rw [toL, toL, toL]
    simp
  rw [← h, tx_of]
theorem head_eq2 {b : Bts} {k k2 : UInt8} {nm pf lk : ByteArray} {m z : Int} (hp : textL (fld b 345 155) ≠ []) (hk : b.getD 156 0 = k) (h : (if k = 0 then (48 : UInt8) else k) = k2) (hn : nm = tx (textL (fld b 0 100))) (hf : pf = tx (textL (fld b 345 155))) (hl : lk = tx (textL (fld b 157 100))) (hm : m = (octalV (fld b 100 8)).1) (hz : z = (octalV (fld b 124 12)).1) :
    hdV (headOf b) = .agg #[.string (pf ++ (⟨#[47]⟩ : ByteArray) ++ nm), .string lk, .int .i64 (m % 4096), .int .i64 z, .int .u8 (k2.toNat : Int)] := by
  have h1 : nameV b = textL (fld b 345 155) ++ 47 :: textL (fld b 0 100) := by unfold nameV; rw [if_neg hp]
  have h2 : kindV (b.getD 156 0) = k2 := by unfold kindV; rw [hk]; exact h
  have h3 : pf ++ (⟨#[47]⟩ : ByteArray) ++ nm = tx (textL (fld b 345 155) ++ 47 :: textL (fld b 0 100)) := by
    rw [hn, hf, tx_app, tx_app, tx_toL, tx_toL, tx_toL, tx_toL, List.append_assoc]
    rfl
  unfold headOf
  rw [h1, h2, h3, hl, hm, hz]
theorem text_le (b : Bts) : (textL b).length ≤ b.length := by unfold textL; exact (List.takeWhile_sublist _).length_le
theorem fld_le (b : Bts) (a k : Nat) : (fld b a k).length ≤ k := by unfold fld; rw [List.length_take]; omega
theorem five_set {W : World} {g : Nat} {a0 a1 a2 a3 a4 x0 x1 x2 x3 x4 : Value} {T : TypeId} (h : W.heap[g]? = some (.cells #[a0, a1, a2, a3, a4] T (0, 0))) :
    (((((W.setCell ⟨g, 0, none⟩ x0).setCell ⟨g, 1, none⟩ x1).setCell ⟨g, 2, none⟩ x2).setCell ⟨g, 3, none⟩ x3).setCell ⟨g, 4, none⟩ x4).heap[g]? = some (.cells #[x0, x1, x2, x3, x4] T (0, 0)) := by
  have h0 : (W.setCell ⟨g, 0, none⟩ x0).heap[g]? = some (.cells #[x0, a1, a2, a3, a4] T (0, 0)) := heap_setCell_same _ _ 0 _ _ _ h
  have h1 : ((W.setCell ⟨g, 0, none⟩ x0).setCell ⟨g, 1, none⟩ x1).heap[g]? = some (.cells #[x0, x1, a2, a3, a4] T (0, 0)) := heap_setCell_same _ _ 1 _ _ _ h0
  have h2 : (((W.setCell ⟨g, 0, none⟩ x0).setCell ⟨g, 1, none⟩ x1).setCell ⟨g, 2, none⟩ x2).heap[g]? = some (.cells #[x0, x1, x2, a3, a4] T (0, 0)) := heap_setCell_same _ _ 2 _ _ _ h1
  have h3 : ((((W.setCell ⟨g, 0, none⟩ x0).setCell ⟨g, 1, none⟩ x1).setCell ⟨g, 2, none⟩ x2).setCell ⟨g, 3, none⟩ x3).heap[g]? = some (.cells #[x0, x1, x2, x3, a4] T (0, 0)) := heap_setCell_same _ _ 3 _ _ _ h2
  exact heap_setCell_same _ _ 4 _ _ _ h3
theorem five_fr {w W : World} {g : Nat} {x0 x1 x2 x3 x4 : Value} (hF : Fr (fun _ => False) w W) (hg : w.heap.size ≤ g) : Fr (fun _ => False) w (((((W.setCell ⟨g, 0, none⟩ x0).setCell ⟨g, 1, none⟩ x1).setCell ⟨g, 2, none⟩ x2).setCell ⟨g, 3, none⟩ x3).setCell ⟨g, 4, none⟩ x4) :=
  ((((hF.setCell (p := ⟨g, 0, none⟩) (Or.inr hg) _).setCell (p := ⟨g, 1, none⟩) (Or.inr hg) _).setCell (p := ⟨g, 2, none⟩) (Or.inr hg) _).setCell (p := ⟨g, 3, none⟩) (Or.inr hg) _).setCell (p := ⟨g, 4, none⟩) (Or.inr hg) _
set_option maxHeartbeats 8000000 in
theorem rparse (w : World) (A : Option Addr) (cap : Nat) (b : Bts) (hr : Rd w w.heap.size A b) (hcap : b.length ≤ cap) (hl : b.length ≤ 140737488351232) :
    Calls Tryd.prog 11 #[.slice A b.length cap] w fun e w' => e = tup (hdV (parseV b).1) (parseV b).2 ∧ Fr (fun _ => False) w w' := by
  have HL := Lib.hid hl
  have HF := Lib.hid (fun o => (Fr.refl (fun _ => False) w).alloc o)
  have HZ := Lib.hid (fun o => heap_alloc_new w o)
  by_cases h512 : b.length = 512
  case neg =>
    rw [parse_bad (fun h => h512 h.1)]
    obtain ⟨n, hn⟩ : ∃ n, n = b.length := ⟨_, rfl⟩
    rw [← hn] at h512 hl hcap ⊢
    have ht : ((n : Int) != 512) = true := bne_iff_ne.2 (by omega)
    clear h512 hr hn
    go_enter Tryd.func11, Tryd.ntmps11
    go_wp2_with fail
    exact bodyPost_ret (v := .tuple #[noV, .int .i64 130]) (results_rec rfl _ _ w.heap.size _ (.int .i64 130) rfl rfl rfl (HZ.out _)) rfl ⟨rfl, HF.out _⟩
  case pos =>
    obtain ⟨blk, off, rfl, hlt, hc⟩ := hr (by intro e; rw [e] at h512; cases h512)
    have HR := Lib.hid (⟨hr, (hr.still (HF.out noRec) (Nat.le_refl _))⟩ : Rd w w.heap.size (some ⟨blk, off, none⟩) b ∧ Rd (w.alloc noRec) w.heap.size (some ⟨blk, off, none⟩) b)
    have HB := Lib.hid h512
    have hcv : (convert 22 9 (.slice (some ⟨blk, off + 257, none⟩) 8 (cap - 257))).run Tryd.prog (w.alloc noRec) = .ok (.string (tx (fld b 257 8))) (w.alloc noRec) := by
      have h := text_conv (fld_rd HR.out.2 257 8) (cap - 257) 8 (by rw [fld_len (by omega)]; omega)
      rw [List.take_of_length_le (by rw [fld_len (by omega)]; omega)] at h
      exact h
    have h7 : 512 ≤ cap := by omega
    have hbl : blk < w.heap.size := hlt
    rw [h512]
    obtain ⟨s257, hs257⟩ : ∃ s, s = tx (fld b 257 8) := ⟨_, rfl⟩
    have hu := ustar_eq b
    rw [← hs257] at hcv hu
    clear hc hr hlt hl hs257 hcap h512
    rcases hu with ⟨hu, hu2⟩ | ⟨hu, hu2⟩
    case inr =>
      rw [parse_bad (fun h => hu2 h.2.1)]
      clear hu2
      go_enter Tryd.func11, Tryd.ntmps11
      go_wp2_with fail
      exact bodyPost_ret (v := .tuple #[noV, .int .i64 130]) (results_rec rfl _ _ w.heap.size _ (.int .i64 130) rfl rfl rfl (HZ.out _)) rfl ⟨rfl, HF.out _⟩
    case inl =>
      have HU := Lib.hid hu2
      clear hu2
      have hm0 := octal_nonneg (fld b 100 8)
      have hs0 := octal_nonneg (fld b 124 12)
      have hmB := octal_lt (fld b 100 8)
      have hsB := octal_lt (fld b 124 12)
      have huB := octal_lt (fld b 148 8)
      have HO1 := Lib.hid (oct_fld (w := w.alloc noRec) (cap := cap) HR.out.2 100 8 (⟨by omega, HB.out⟩))
      have HO2 := Lib.hid (oct_fld (w := w.alloc noRec) (cap := cap) HR.out.2 124 12 (⟨by omega, HB.out⟩))
      have HO3 := Lib.hid (oct_fld (w := w.alloc noRec) (cap := cap) HR.out.2 148 8 (⟨by omega, HB.out⟩))
      have HSM := Lib.hid (rsum (w.alloc noRec) (some ⟨blk, off, none⟩) cap w.heap.size b HR.out.2 HL.out)
      rw [HB.out] at HSM
      obtain ⟨m, hm⟩ : ∃ v, v = (octalV (fld b 100 8)).1 := ⟨_, rfl⟩
      obtain ⟨e1, he1⟩ : ∃ v, v = (octalV (fld b 100 8)).2 := ⟨_, rfl⟩
      obtain ⟨z, hz⟩ : ∃ v, v = (octalV (fld b 124 12)).1 := ⟨_, rfl⟩
      obtain ⟨f1, hf1⟩ : ∃ v, v = (octalV (fld b 124 12)).2 := ⟨_, rfl⟩
      obtain ⟨u, hu1⟩ : ∃ v, v = (octalV (fld b 148 8)).1 := ⟨_, rfl⟩
      obtain ⟨g1, hg1⟩ : ∃ v, v = (octalV (fld b 148 8)).2 := ⟨_, rfl⟩
      obtain ⟨t, ht⟩ : ∃ v, v = sumV b := ⟨_, rfl⟩
      have HD := Lib.hid (⟨hm, he1, hz, hf1, hu1, hg1, ht⟩ : _ ∧ _ ∧ _ ∧ _ ∧ _ ∧ _ ∧ _)
      rw [← hm, ← he1] at HO1
      rw [← hz, ← hf1] at HO2
      rw [← hu1, ← hg1] at HO3
      rw [← ht] at HSM
      rw [← hm] at hm0 hmB
      rw [← hz] at hs0 hsB
      rw [← hu1] at huB
      clear hm he1 hz hf1 hu1 hg1 ht
      by_cases hgood : e1 = 0 ∧ f1 = 0 ∧ g1 = 0 ∧ u = (t : Int) ∧ z ≤ 262144
      case neg =>
        rw [parse_bad (fun h => hgood (by
          obtain ⟨d1, d2, d3, d4, d5, d6, d7⟩ := HD.out
          rw [d2, d3, d4, d5, d6, d7]
          exact ⟨h.2.2.1, h.2.2.2.1, h.2.2.2.2.1, h.2.2.2.2.2.1, h.2.2.2.2.2.2.1⟩))]
        rcases (show e1 ≠ 0 ∨ (e1 = 0 ∧ f1 ≠ 0) ∨ (e1 = 0 ∧ f1 = 0 ∧ g1 ≠ 0) ∨ (e1 = 0 ∧ f1 = 0 ∧ g1 = 0 ∧ u ≠ (t : Int)) ∨ (e1 = 0 ∧ f1 = 0 ∧ g1 = 0 ∧ u = (t : Int) ∧ 262144 < z) by omega) with h | ⟨rfl, h⟩ | ⟨rfl, rfl, h⟩ | ⟨rfl, rfl, rfl, h⟩ | ⟨rfl, rfl, rfl, rfl, h⟩
        case inr.inr.inr.inr =>
          clear hgood
          go_enter Tryd.func11, Tryd.ntmps11
          go_wp2_with fail
          refine HO1.out.mono ?_
          rintro e w' ⟨rfl, rfl⟩
          go_wp2_with fail
          refine HO2.out.mono ?_
          rintro e w' ⟨rfl, rfl⟩
          go_wp2_with fail
          refine HO3.out.mono ?_
          rintro e w' ⟨rfl, rfl⟩
          go_wp2_with fail
          refine HSM.out.mono ?_
          rintro e w' ⟨rfl, rfl⟩
          go_wp2_with fail
          exact bodyPost_ret (v := .tuple #[noV, .int .i64 130]) (results_rec rfl _ _ w.heap.size _ (.int .i64 130) rfl rfl rfl (HZ.out _)) rfl ⟨rfl, HF.out _⟩
        case' inr.inr.inr.inl => have hb := bne_iff_ne.2 h
        case' inr.inr.inl => have hb := bne_iff_ne.2 h
        case' inr.inl => have hb := bne_iff_ne.2 h
        case' inl => have hb := bne_iff_ne.2 h
        all_goals
          clear hgood h
          go_enter Tryd.func11, Tryd.ntmps11
          go_wp2_with fail
          refine HO1.out.mono ?_
          rintro e w' ⟨rfl, rfl⟩
          go_wp2_with fail
          refine HO2.out.mono ?_
          rintro e w' ⟨rfl, rfl⟩
          go_wp2_with fail
          refine HO3.out.mono ?_
          rintro e w' ⟨rfl, rfl⟩
          go_wp2_with fail
          first
            | (refine HSM.out.mono ?_
               rintro e w' ⟨rfl, rfl⟩
               go_wp2_with fail
               exact bodyPost_ret (v := .tuple #[noV, .int .i64 130]) (results_rec rfl _ _ w.heap.size _ (.int .i64 130) rfl rfl rfl (HZ.out _)) rfl ⟨rfl, HF.out _⟩)
            | exact bodyPost_ret (v := .tuple #[noV, .int .i64 130]) (results_rec rfl _ _ w.heap.size _ (.int .i64 130) rfl rfl rfl (HZ.out _)) rfl ⟨rfl, HF.out _⟩
      case pos =>
        obtain ⟨rfl, rfl, rfl, rfl, hz2⟩ := hgood
        have hz3 : decide ((262144 : Int) < z) = false := decide_eq_false (by omega)
        have HZ2 := Lib.hid hz2
        clear hz2
        have hFn : ∀ n : Nat, Fr (fun _ => False) w ((w.alloc noRec).drewN n) := fun n => (HF.out noRec).drewN n
        have HT1 := Lib.hid (fun (n : Nat) => (show Calls Tryd.prog 27 #[.slice (some ⟨blk, off, none⟩) 100 cap] ((w.alloc noRec).drewN n) fun e w' => e = .returned (.string (tx (textL (fld b 0 100)))) ∧ w' = (w.alloc noRec).drewN n from
          (text_fld (w := (w.alloc noRec).drewN n) (cap := cap) (HR.out.1.still (hFn n) (Nat.le_refl _)) 0 100 (by omega) ⟨by omega, HB.out⟩).mono fun _ _ ⟨a, c⟩ => ⟨a, c.symm⟩))
        have HT2 := Lib.hid (fun (n : Nat) => (show Calls Tryd.prog 27 #[.slice (some ⟨blk, off + 345, none⟩) 155 (cap - 345)] ((w.alloc noRec).drewN n) fun e w' => e = .returned (.string (tx (textL (fld b 345 155)))) ∧ w' = (w.alloc noRec).drewN n from
          (text_fld (w := (w.alloc noRec).drewN n) (cap := cap) (HR.out.1.still (hFn n) (Nat.le_refl _)) 345 155 (by omega) ⟨by omega, HB.out⟩).mono fun _ _ ⟨a, c⟩ => ⟨a, c.symm⟩))
        have HT3 := Lib.hid (fun (n : Nat) => (show Calls Tryd.prog 27 #[.slice (some ⟨blk, off + 157, none⟩) 100 (cap - 157)] ((w.alloc noRec).drewN n) fun e w' => e = .returned (.string (tx (textL (fld b 157 100)))) ∧ (w.alloc noRec).drewN n = w' from
          text_fld (w := (w.alloc noRec).drewN n) (cap := cap) (HR.out.1.still (hFn n) (Nat.le_refl _)) 157 100 (by omega) ⟨by omega, HB.out⟩))
        obtain ⟨nm, hnm⟩ : ∃ v, v = tx (textL (fld b 0 100)) := ⟨_, rfl⟩
        obtain ⟨pf, hpf⟩ : ∃ v, v = tx (textL (fld b 345 155)) := ⟨_, rfl⟩
        obtain ⟨lk, hlk⟩ : ∃ v, v = tx (textL (fld b 157 100)) := ⟨_, rfl⟩
        have HE := Lib.hid (⟨hnm, hpf, hlk⟩ : _ ∧ _ ∧ _)
        have hne := str_dec (textL (fld b 0 100))
        have hpe := str_dec (textL (fld b 345 155))
        rw [← hnm] at HT1 hne
        rw [← hpf] at HT2 hpe
        rw [← hlk] at HT3
        have HNE := Lib.hid hne
        have HPE := Lib.hid hpe
        have hil : 156 < b.length := by have := HB.out; omega
        have hk := (HR.out.2.at_ hil)
        obtain ⟨blk2, off2, e, _, hk⟩ := hk
        cases e
        obtain ⟨k, hk2⟩ : ∃ v, v = b[156] := ⟨_, rfl⟩
        rw [← hk2] at hk
        have hkd : b.getD 156 0 = k := by rw [hk2, List.getD_eq_getElem?_getD, List.getElem?_eq_getElem hil]; rfl
        have HK := Lib.hid hkd
        have HKC := Lib.hid hk
        have HPV := Lib.hid (show textL (fld b 0 100) ≠ [] → parseV b = (headOf b, 0) from fun hn3 => by
          obtain ⟨d1, d2, d3, d4, d5, d6, d7⟩ := HD.out
          unfold parseV
          exact if_pos ⟨HB.out, HU.out, d2.symm, d4.symm, d6.symm, by rw [← d5, d7], by rw [← d3]; exact HZ2.out, hn3⟩)
        obtain ⟨V, hV⟩ : ∃ V, V = parseV b := ⟨_, rfl⟩
        rw [← hV] at HPV ⊢
        have HVB := Lib.hid (show textL (fld b 0 100) = [] → V = (noHd, 130) from fun hn3 => hV.trans (parse_bad (fun h => h.2.2.2.2.2.2.2 hn3)))
        clear hnm hpf hlk hne hpe hk hk2 hkd hil hV hFn
        go_enter Tryd.func11, Tryd.ntmps11
        go_wp2_with fail
        refine HO1.out.mono ?_
        rintro e w' ⟨rfl, rfl⟩
        go_wp2_with fail
        refine HO2.out.mono ?_
        rintro e w' ⟨rfl, rfl⟩
        go_wp2_with fail
        refine HO3.out.mono ?_
        rintro e w' ⟨rfl, rfl⟩
        go_wp2_with fail
        refine HSM.out.mono ?_
        rintro e w' ⟨rfl, rfl⟩
        go_wp2_with fail
        have HMB := Lib.hid (⟨hm0, hmB, hs0, hsB⟩ : _ ∧ _ ∧ _ ∧ _)
        clear hz3 huB hsB hmB hm0 hs0
        go_quiet ((go_at_call 27; first | (with_reducible exact Calls.quiet_of_same (HT1.out _)) | (with_reducible exact Calls.quiet_of_same (HT2.out _))))
        have HT3q := Lib.hid (HT3.out nq)
        have HBL := Lib.hid (show ((w.alloc noRec).drewN nq).heap[w.heap.size]? = some noRec from HZ.out noRec)
        have HFq := Lib.hid (show Fr (fun _ => False) w ((w.alloc noRec).drewN nq) from (HF.out noRec).drewN nq)
        have hkc : ((w.alloc noRec).drewN nq).cell? ⟨blk, off + 156, none⟩ = some (.int .u8 (k.toNat : Int)) := HKC.out
        obtain ⟨W2, hW2⟩ : ∃ W, W = (w.alloc noRec).drewN nq := ⟨_, rfl⟩
        rw [← hW2] at HT3q HBL HFq hkc ⊢
        have c0 : W2.cell? ⟨w.heap.size, 0, none⟩ = some (.string ⟨#[]⟩) := cellAt HBL.out 0
        have c1 : W2.cell? ⟨w.heap.size, 1, none⟩ = some (.string ⟨#[]⟩) := cellAt HBL.out 1
        have c2 : W2.cell? ⟨w.heap.size, 2, none⟩ = some (.int .i64 0) := cellAt HBL.out 2
        have c3 : W2.cell? ⟨w.heap.size, 3, none⟩ = some (.int .i64 0) := cellAt HBL.out 3
        have c4 : W2.cell? ⟨w.heap.size, 4, none⟩ = some (.int .u8 0) := cellAt HBL.out 4
        have f0 := freeAt HBL.out 0
        have f1 := freeAt HBL.out 1
        have f2 := freeAt HBL.out 2
        have f3 := freeAt HBL.out 3
        have f4 := freeAt HBL.out 4
        clear hW2 HT1 HT2 HT3
        rcases HNE.out with ⟨n1, hn3⟩ | ⟨n1, n2, hn3⟩
        case inl =>
          have HV2 := Lib.hid (HVB.out hn3)
          clear hn3 HNE HPE HPV HVB
          subst n1
          go_wp2_with fail
          refine bodyPost_ret (v := .tuple #[noV, .int .i64 130]) (results_rec rfl _ _ w.heap.size _ (.int .i64 130) rfl rfl rfl (five_set HBL.out)) rfl ⟨?_, five_fr HFq.out (Nat.le_refl _)⟩
          rw [HV2.out]
          rfl
        case inr =>
          have HV2 := Lib.hid (HPV.out hn3)
          clear hn3 HNE HPV HVB
          rcases HPE.out with ⟨q1, hq3⟩ | ⟨q1, q2, hq3⟩
          case' inl =>
            have HV : Hid (∀ k2 : UInt8, (if k = 0 then (48 : UInt8) else k) = k2 → hdV (headOf b) = .agg #[.string nm, .string lk, .int .i64 (m % 4096), .int .i64 z, .int .u8 (k2.toNat : Int)]) := Lib.hid (fun k2 h => head_eq1 hq3 HK.out h HE.out.1 HE.out.2.2 HD.out.1 HD.out.2.2.1)
            clear hq3 HPE
            subst q1
          case' inr =>
            have HV : Hid (∀ k2 : UInt8, (if k = 0 then (48 : UInt8) else k) = k2 → hdV (headOf b) = .agg #[.string (pf ++ (⟨#[47]⟩ : ByteArray) ++ nm), .string lk, .int .i64 (m % 4096), .int .i64 z, .int .u8 (k2.toNat : Int)]) := Lib.hid (fun k2 h => head_eq2 hq3 HK.out h HE.out.1 HE.out.2.1 HE.out.2.2 HD.out.1 HD.out.2.2.1)
            have hsz := HE.out
            have hs1 : pf.size + 1 ≤ 9223372036854775807 := by rw [hsz.2.1]; have := text_le (fld b 345 155); have := fld_le b 345 155; show (textL _).toArray.size + 1 ≤ _; rw [List.size_toArray]; omega
            have hs2 : pf.size + 1 + nm.size ≤ 9223372036854775807 := by rw [hsz.1, hsz.2.1]; have := text_le (fld b 345 155); have := fld_le b 345 155; have := text_le (fld b 0 100); have := fld_le b 0 100; show (textL _).toArray.size + 1 + (textL _).toArray.size ≤ _; rw [List.size_toArray, List.size_toArray]; omega
            clear hq3 HPE hsz
          all_goals
            by_cases hk0 : k = 0
            case' pos =>
              have hv := Lib.hid (HV.out 48 (if_pos hk0))
              rw [hk0] at hkc
              have hkc2 : W2.cell? ⟨blk, off + 156, none⟩ = some (.int .u8 0) := hkc
              clear hkc hk0
            case' neg =>
              have hv := Lib.hid (HV.out k (if_neg hk0))
              have hkn := u8_ne (y := 0) hk0
              obtain ⟨y, hy⟩ : ∃ y, y = k.toNat := ⟨_, rfl⟩
              rw [← hy] at hkc hkn hv
              have hkn2 : ((y : Int) == 0) = false := hkn
              clear hk0 hkn hy
            all_goals
              go_wp2_with fail
              refine HT3q.out.mono ?_
              rintro e w' ⟨rfl, rfl⟩
              have HMM := Lib.hid HMB.out
              obtain ⟨hm0, hmB, hs0, hsB⟩ := HMM.out
              have hrem : m.tmod 4096 = m % 4096 := Int.tmod_eq_emod_of_nonneg hm0
              obtain ⟨mr, hmr⟩ : ∃ v, v = m % 4096 := ⟨_, rfl⟩
              rw [← hmr] at hrem hv
              clear hmr
              go_wp2_with fail
              refine bodyPost_ret (v := .tuple #[hdV (headOf b), .int .i64 0]) ?_ rfl ⟨?_, five_fr HFq.out (Nat.le_refl _)⟩
              · rw [hv.out]
                exact results_rec rfl _ _ w.heap.size _ (.int .i64 0) rfl rfl rfl (five_set HBL.out)
              · rw [HV2.out]
end Go.Proofs.YtdocanihocbhhaaDoor.he
