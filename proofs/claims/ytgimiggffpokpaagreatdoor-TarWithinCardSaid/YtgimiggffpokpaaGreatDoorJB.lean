/-
  Texts that belong together, joined: HeQ HeW HeX HeN HeO HeP HeR HeS HeT HeU HeY HeV.
-/
import Derived.Test.YtgimiggffpokpaaGreatDoorHeA
import Derived.Shelf.Abstract
import Derived.Lib.SlBytesConst
import Derived.BigQuiet
import Derived.Lib.ConvBytes

/-
  What is asked of the program's headers; the law's works.
-/



namespace Go.Proofs.YtgimiggffpokpaaGreatDoor.he
set_option maxRecDepth 100000
open Go.RowKit Go.Maps
set_option maxRecDepth 100000

abbrev Big (n : Int) : Prop := -9223372036854775808 ≤ n ∧ n ≤ 9223372036854775807
abbrev sV (l : Bts) : Value := .string ⟨l.toArray⟩
abbrev hdV (h : Hd) : Value := .agg #[sV h.name, sV h.link, .int .i64 h.mode, .int .i64 h.size, .int .u8 (h.kind.toNat : Int)]
structure WfH (h : Hd) : Prop where
  name : h.name.length ≤ 140737488351232
  link : h.link.length ≤ 140737488351232
  mode : Big h.mode
  size : Big h.size
/-- The program's headers, as the chapter has them. D: what lies in the program's data. -/
structure HeadP (D : World → Prop) : Prop where
  d_keep : ∀ {w w' : World}, D w → Fr (fun _ => False) w w' → D w'
  parse : ∀ (w : World) (A : Option Addr) (cap : Nat) (b : Bts), Rd w w.heap.size A b → (A = none → cap = 0) → b.length ≤ cap → b.length ≤ 140737488351232 → D w → Calls Tryz.prog 30 #[.slice A b.length cap] w fun e w' => e = .returned (.tuple #[hdV (parseV b).1, .int .i64 (parseV b).2]) ∧ Fr (fun _ => False) w w'
  print : ∀ (w : World) (h : Hd), WfH h → D w → Calls Tryz.prog 37 #[hdV h] w fun e w' => ∃ A cap, e = .returned (.tuple #[.slice A (printV h).1.length cap, .int .i64 (printV h).2]) ∧ Own w' w.heap.size (.slice A (printV h).1.length cap) (printV h).1 ∧ Fr (fun _ => False) w w'
  sum : ∀ (w : World) (A : Option Addr) (cap : Nat) (b : Bts), Rd w w.heap.size A b → (A = none → cap = 0) → b.length ≤ cap → b.length ≤ 140737488351232 → D w → Calls Tryz.prog 46 #[.slice A b.length cap] w fun e w' => e = .returned (.int .i64 (sumV b : Nat)) ∧ Fr (fun _ => False) w w'
  octal : ∀ (w : World) (A : Option Addr) (cap : Nat) (b : Bts), Rd w w.heap.size A b → (A = none → cap = 0) → b.length ≤ cap → b.length ≤ 140737488351232 → D w → cap ≤ maxLen → Calls Tryz.prog 44 #[.slice A b.length cap] w fun e w' => e = .returned (.tuple #[.int .i64 (octalV b).1, .int .i64 (octalV b).2]) ∧ Fr (fun _ => False) w w'
  empty : ∀ (w : World) (A : Option Addr) (cap : Nat) (b : Bts), Rd w w.heap.size A b → (A = none → cap = 0) → b.length ≤ cap → b.length ≤ 140737488351232 → D w → cap ≤ maxLen → Calls Tryz.prog 19 #[.slice A b.length cap] w fun e w' => e = .returned (.bool (emptyV b)) ∧ Fr (fun _ => False) w w'
def exH : Hd := ⟨[97], [], 0, 1, 48⟩
theorem ex_print : (printV exH).2 = 0 ∧ (((printV exH).1.drop 124).take 11) = [48, 48, 48, 48, 48, 48, 48, 48, 48, 48, 49] := by decide +kernel
theorem ex_eq : (printV exH).1.length = 512 ∧ parseV (printV exH).1 = (exH, 0) := by
  have hp : printV exH = ((printV exH).1, 0) := by
    have := ex_print.1
    exact Prod.ext rfl this
  exact ⟨(print_sum hp).1, (parse_print hp).1⟩
theorem ex_wf : WfH exH := ⟨by decide, by decide, by decide, by decide⟩
theorem ex_empty : emptyV (List.replicate 512 0) = true := by decide +kernel
theorem wpList_textG {P : Program} {w : World} {ops : Array Oper} {rest : List Oper} {o : Oper} {a : Act} {Q : Exit → Act → World → Prop} (x : Operand) (src dst e : TypeId) (ho : o.op = .convert src dst x)
    (hs : P.underlying src = some (.slice e)) (he : P.underlying e = some (.int .u8)) (hd : P.underlying dst = some .string) (ad : Addr) (n cap : Nat) (l : List UInt8) (hn : l.length = n) (hw : Region.wanted o (yielded ops a.tmps) = true) (hx : a.eval x = .slice (some ad) n cap)
    (hc : ∀ j (hj : j < l.length), w.cell? (ad.add j) = some (.int .u8 (l[j].toNat : Int)))
    (h : wpList P ops Q rest (a.put o.dst (.string ⟨l.toArray⟩)) w) : wpList P ops Q (o :: rest) a w := by
  subst hn
  refine wpList_step fun K hK => ?_
  rw [if_pos hw]
  have hr := run_convert_bytes_back (P := P) w src dst e ad cap l hs he hd hc
  unfold Oper.wp
  simp only [execOp, ho, hx, hr, Sem.run_bind, Sem.run_pure, Result.andThen_ok]
  exact hK _ _ h
abbrev octC : Array Value := #[.int .u8 48, .int .u8 48, .int .u8 48, .int .u8 48, .int .u8 54, .int .u8 52, .int .u8 52, .int .u8 32]
theorem oct_row (w : World) : Rd (w.alloc (.cells octC 5 (8, 9))) (w.alloc (.cells octC 5 (8, 9))).heap.size (some ⟨w.heap.size, 0, none⟩) [48, 48, 48, 48, 54, 52, 52, 32] := fun _ => ⟨w.heap.size, 0, rfl, by rw [World.size_alloc]; omega, fun j y hj => by
  rw [Nat.zero_add, World.cell?_alloc_mark, show octC = (bs [48, 48, 48, 48, 54, 52, 52, 32]).toArray from rfl]
  simp [bs_get, hj]⟩
end Go.Proofs.YtgimiggffpokpaaGreatDoor.he

/-
  HeadBack, HeadWithin over what is asked of the program's headers.
-/
namespace Go.Proofs.YtgimiggffpokpaaGreatDoor.he
set_option maxRecDepth 100000
open Go.RowKit Go.Maps
set_option maxRecDepth 100000

theorem own_cap3 {w : World} {base n cap size : Nat} {t : TypeId} {A : Option Addr} {xs : List Value} (h : w.ownsRow base t size (.slice A n cap) n xs) : (A = none → cap = 0) ∧ n ≤ cap := by
  rcases h.2 with ⟨e, h0⟩ | ⟨g, cap', cur, e, hg, hh, hn, _⟩
  · cases e
    exact ⟨fun _ => rfl, Nat.le_refl _⟩
  · cases e
    exact ⟨fun e => (by cases e), hn⟩
theorem own_max {w : World} {base n cap size : Nat} {t : TypeId} {A : Option Addr} {xs : List Value} (h : w.ownsRow base t size (.slice A n cap) n xs) : cap ≤ maxLen := by
  rcases h.2 with ⟨e, h0⟩ | ⟨g, cap', cur, e, hg, hh, hn, hm, _⟩
  · cases e
    exact Nat.zero_le _
  · cases e
    exact hm
/-- A header as a record, and where it lies as a variable of its own. -/
abbrev rec5 (a b c d e : Value) : Obj := .cells #[a, b, c, d, e] 57
theorem rec_cells {w w' : World} {a b c d e : Value} (hF : Fr (fun _ => False) (w.alloc (rec5 a b c d e)) w') :
    w'.cell? ⟨w.heap.size, 0, none⟩ = some a ∧ w'.cell? ⟨w.heap.size, 1, none⟩ = some b ∧ w'.cell? ⟨w.heap.size, 2, none⟩ = some c ∧ w'.cell? ⟨w.heap.size, 3, none⟩ = some d ∧ w'.cell? ⟨w.heap.size, 4, none⟩ = some e := by
  have hb : w'.heap[w.heap.size]? = some (rec5 a b c d e) := by
    rw [hF.block w.heap.size (by rw [World.size_alloc]; omega) (fun e => e)]
    exact heap_alloc_new _ _
  unfold World.cell?
  rw [hb]
  exact ⟨rfl, rfl, rfl, rfl, rfl⟩
theorem str_ne {l : Bts} (h : l ≠ []) : ((⟨l.toArray⟩ : ByteArray).toList == (⟨#[]⟩ : ByteArray).toList) = false ∧ ((⟨l.toArray⟩ : ByteArray).toList == []) = false := by
  have e : (⟨l.toArray⟩ : ByteArray).toList = l := tx_toL l
  have e2 : (⟨#[]⟩ : ByteArray).toList = [] := tx_toL []
  rw [e, e2]
  exact ⟨beq_eq_false_iff_ne.2 h, beq_eq_false_iff_ne.2 h⟩
end Go.Proofs.YtgimiggffpokpaaGreatDoor.he

/-
  HeadFinds over what is asked of the program's headers.
-/
namespace Go.Proofs.YtgimiggffpokpaaGreatDoor.he
set_option maxRecDepth 100000
open Go.RowKit Go.Maps
set_option maxRecDepth 100000

end Go.Proofs.YtgimiggffpokpaaGreatDoor.he

/-
  HeadNumbers; the document's Sum and Empty.
-/
namespace Go.Proofs.YtgimiggffpokpaaGreatDoor.he
set_option maxRecDepth 100000
open Go.RowKit Go.Maps
set_option maxRecDepth 100000

theorem sumF_snoc (b : Bts) (i : Nat) (h : i < b.length) : sumF 0 (b.take (i + 1)) = sumF 0 (b.take i) + sumAt i b[i] := by
  rw [← List.take_concat_get h, List.concat_eq_append, sumF_app, List.length_take, Nat.min_eq_left (by omega), Nat.zero_add]
  rfl
end Go.Proofs.YtgimiggffpokpaaGreatDoor.he

/-
  The document's text; a slice of a header's bytes.
-/
namespace Go.Proofs.YtgimiggffpokpaaGreatDoor.he
set_option maxRecDepth 100000
open Go.RowKit Go.Maps
set_option maxRecDepth 100000

theorem text_stop {b : Bts} {i : Nat} (hi : i < b.length) (hz : b[i] = 0) (hk : ∀ j (h : j < b.length), j < i → b[j] ≠ 0) : textL b = b.take i := by
  have e : b = b.take i ++ b[i] :: b.drop (i + 1) := by
    rw [List.getElem_cons_drop, List.take_append_drop]
  unfold textL
  conv => lhs; rw [e]
  rw [takeWhile_all (p := fun x => decide (x ≠ 0)) (fun y hy => by
    obtain ⟨j, hj, rfl⟩ := List.getElem_of_mem hy
    have hj2 : j < i ∧ j < b.length := by rw [List.length_take] at hj; omega
    rw [List.getElem_take]
    exact decide_eq_true (hk j hj2.2 hj2.1)) (fun y hy => by
    cases hy
    rw [hz]; rfl)]
theorem text_all {b : Bts} (hk : ∀ j (h : j < b.length), b[j] ≠ 0) : textL b = b := by
  have := takeWhile_all (p := fun x => decide (x ≠ 0)) (l := b) (r := []) (fun y hy => by
    obtain ⟨j, hj, rfl⟩ := List.getElem_of_mem hy
    exact decide_eq_true (hk j hj)) (fun y hy => by cases hy)
  rw [List.append_nil] at this
  exact this
theorem text_conv {w : World} {B : Nat} {ad : Addr} {b : Bts} (hr : Rd w B (some ad) b) (cap i : Nat) (hi : i ≤ b.length) : (convert 22 9 (.slice (some ad) i cap)).run Tryz.prog w = .ok (.string (tx (b.take i))) w := by
  have hl : (b.take i).length = i := by rw [List.length_take]; omega
  have h := run_convert_bytes_back (P := Tryz.prog) w 22 9 5 ad cap (b.take i) Tryz.underlying22 Tryz.underlying5 Tryz.underlying9 (fun j hj => by
    obtain ⟨blk, off, e, _, hc⟩ := (hr.take i) (by intro e; rw [e] at hj; simp at hj)
    cases e
    rw [add_plain]
    exact hc j _ (List.getElem?_eq_getElem hj))
  rw [hl] at h
  exact h
end Go.Proofs.YtgimiggffpokpaaGreatDoor.he

/-
  The document's Parse.
-/

namespace Go.Proofs.YtgimiggffpokpaaGreatDoor.he
set_option maxRecDepth 100000
open Go.RowKit Go.Maps
set_option maxRecDepth 100000

theorem fld_rd {w : World} {B blk off : Nat} {b : Bts} (hr : Rd w B (some ⟨blk, off, none⟩) b) (k n : Nat) : Rd w B (some ⟨blk, off + k, none⟩) (fld b k n) := fun hne => by
  have hb : b ≠ [] := by
    intro e
    apply hne
    unfold fld
    rw [e, List.drop_nil, List.take_nil]
  obtain ⟨blk2, off2, e, hlt, hc⟩ := hr hb
  cases e
  refine ⟨blk, off + k, rfl, hlt, fun j x hj => ?_⟩
  have h2 : b[k + j]? = some x := by
    unfold fld at hj
    rw [List.getElem?_take] at hj
    split at hj
    · rw [List.getElem?_drop] at hj
      exact hj
    · cases hj
  have := hc (k + j) x h2
  rw [← Nat.add_assoc] at this
  exact this
theorem fld_len {b : Bts} {k n : Nat} (h : k + n ≤ b.length) : (fld b k n).length = n := by
  unfold fld
  rw [List.length_take, List.length_drop]
  omega
/-- What the chapter's first test says of the bytes at 257. -/
theorem ustar_eq (b : Bts) : (((tx (fld b 257 8)).toList == [117, 115, 116, 97, 114, 0, 48, 48]) = true ∧ fld b 257 8 = ustar) ∨ (((tx (fld b 257 8)).toList == [117, 115, 116, 97, 114, 0, 48, 48]) = false ∧ fld b 257 8 ≠ ustar) := by
  rw [tx_toL]
  by_cases h : fld b 257 8 = ustar
  · exact Or.inl ⟨beq_iff_eq.2 h, h⟩
  · exact Or.inr ⟨beq_eq_false_iff_ne.2 h, h⟩
theorem octal_lt (b : Bts) : (octalV b).1 < 8589934592 := by
  rcases octal_cases b with h | ⟨h, h1, h2, _⟩
  · rw [h]; decide
  · rw [h]
    have h3 := num8_lt (digB b) (fun y hy => by
      unfold digB at hy
      exact List.all_eq_true.1 List.all_takeWhile y hy)
    have h4 : 8 ^ (digB b).length ≤ 8 ^ 11 := Nat.pow_le_pow_right (by omega) h2
    have h5 : (8 : Nat) ^ 11 = 8589934592 := by decide
    show ((num8 (digB b) : Nat) : Int) < _
    omega
theorem str_dec (l : Bts) : (tx l = ⟨#[]⟩ ∧ l = []) ∨ (((tx l).toList == (⟨#[]⟩ : ByteArray).toList) = false ∧ ((tx l).toList == []) = false ∧ l ≠ []) := by
  by_cases h : l = []
  · exact Or.inl ⟨by rw [h], h⟩
  · exact Or.inr ⟨(str_ne h).1, (str_ne h).2, h⟩
theorem parse_bad {b : Bts} (h : ¬ headB b) : parseV b = (noHd, 130) := by unfold parseV; rw [if_neg h]
abbrev noV : Value := .agg #[.string ⟨#[]⟩, .string ⟨#[]⟩, .int .i64 0, .int .i64 0, .int .u8 0]
abbrev tup (v : Value) (z : Int) : Ending := .returned (.tuple #[v, .int .i64 z])
theorem results_rec {fn : Func} {p q : Tmp} (h : fn.results = #[.cell p 57, .tmp q]) (tmps : Array Value) (w : World) (g : Nat) (cs : Array Value) (v : Value) (hs : cs.size = 5)
    (hp : tmps.getD p undef = .pointer (some ⟨g, 0, none⟩)) (hv : tmps.getD q undef = v) (hg : w.heap[g]? = some (.cells cs 57 (0, 0))) :
    (results fn tmps).run Tryz.prog w = .ok (.tuple #[.agg cs, v]) w := by
  have hp' : tmps[p]?.getD undef = .pointer (some ⟨g, 0, none⟩) := by simpa using hp
  have hq' : tmps[q]?.getD undef = v := by simpa using hv
  have hr := run_loadVar_row (P := Tryz.prog) w g 57 57 cs (0, 0) _ hg Tryz.underlying57 rfl (by rw [hs]; kernel_rfl)
  simp [results, h, hp', hq', asAddr, hr]
/-- A variable for a header in which nothing is yet. -/
abbrev noRec : Obj := .cells #[.string ⟨#[]⟩, .string ⟨#[]⟩, .int .i64 0, .int .i64 0, .int .u8 0] 57
theorem head_eq1 {b : Bts} {k k2 : UInt8} {nm lk : ByteArray} {m z : Int} (hp : textL (fld b 345 155) = []) (hk : b.getD 156 0 = k) (h : (if k = 0 then (48 : UInt8) else k) = k2) (hn : nm = tx (textL (fld b 0 100))) (hl : lk = tx (textL (fld b 157 100))) (hm : m = (octalV (fld b 100 8)).1) (hz : z = (octalV (fld b 124 12)).1) :
    hdV (headOf b) = .agg #[.string nm, .string lk, .int .i64 (m % 4096), .int .i64 z, .int .u8 (k2.toNat : Int)] := by
  have h1 : nameV b = textL (fld b 0 100) := by unfold nameV; rw [if_pos hp]
  have h2 : kindV (b.getD 156 0) = k2 := by unfold kindV; rw [hk]; exact h
  unfold headOf
  rw [h1, h2, hn, hl, hm, hz]
theorem tx_app (a b : ByteArray) : a ++ b = tx (a.toList ++ b.toList) := by
  have h : (a ++ b).toList = a.toList ++ b.toList := by
    rw [toL, toL, toL]
    simp
  rw [← h, tx_of]
theorem head_eq2 {b : Bts} {k k2 : UInt8} {nm pf lk : ByteArray} {m z : Int} (hp : textL (fld b 345 155) ≠ []) (hk : b.getD 156 0 = k) (h : (if k = 0 then (48 : UInt8) else k) = k2) (hn : nm = tx (textL (fld b 0 100))) (hf : pf = tx (textL (fld b 345 155))) (hl : lk = tx (textL (fld b 157 100))) (hm : m = (octalV (fld b 100 8)).1) (hz : z = (octalV (fld b 124 12)).1) :
    hdV (headOf b) = .agg #[.string (pf ++ (⟨#[47]⟩ : ByteArray) ++ nm), .string lk, .int .i64 (m % 4096), .int .i64 z, .int .u8 (k2.toNat : Int)] := by
  have h1 : nameV b = textL (fld b 345 155) ++ 47 :: textL (fld b 0 100) := by unfold nameV; rw [if_neg hp]
  have h2 : kindV (b.getD 156 0) = k2 := by unfold kindV; rw [hk]; exact h
  have h3 : pf ++ (⟨#[47]⟩ : ByteArray) ++ nm = tx (textL (fld b 345 155) ++ 47 :: textL (fld b 0 100)) := by
    rw [hn, hf, tx_app, tx_app, tx_toL, tx_toL, tx_toL, tx_toL, List.append_assoc]
    rfl
  unfold headOf
  rw [h1, h2, h3, hl, hm, hz]
theorem text_le (b : Bts) : (textL b).length ≤ b.length := by unfold textL; exact (List.takeWhile_sublist _).length_le
theorem fld_le (b : Bts) (a k : Nat) : (fld b a k).length ≤ k := by unfold fld; rw [List.length_take]; omega
theorem five_set {W : World} {g : Nat} {a0 a1 a2 a3 a4 x0 x1 x2 x3 x4 : Value} {T : TypeId} (h : W.heap[g]? = some (.cells #[a0, a1, a2, a3, a4] T (0, 0))) :
    (((((W.setCell ⟨g, 0, none⟩ x0).setCell ⟨g, 1, none⟩ x1).setCell ⟨g, 2, none⟩ x2).setCell ⟨g, 3, none⟩ x3).setCell ⟨g, 4, none⟩ x4).heap[g]? = some (.cells #[x0, x1, x2, x3, x4] T (0, 0)) := by
  have h0 : (W.setCell ⟨g, 0, none⟩ x0).heap[g]? = some (.cells #[x0, a1, a2, a3, a4] T (0, 0)) := heap_setCell_same _ _ 0 _ _ _ h
  have h1 : ((W.setCell ⟨g, 0, none⟩ x0).setCell ⟨g, 1, none⟩ x1).heap[g]? = some (.cells #[x0, x1, a2, a3, a4] T (0, 0)) := heap_setCell_same _ _ 1 _ _ _ h0
  have h2 : (((W.setCell ⟨g, 0, none⟩ x0).setCell ⟨g, 1, none⟩ x1).setCell ⟨g, 2, none⟩ x2).heap[g]? = some (.cells #[x0, x1, x2, a3, a4] T (0, 0)) := heap_setCell_same _ _ 2 _ _ _ h1
  have h3 : ((((W.setCell ⟨g, 0, none⟩ x0).setCell ⟨g, 1, none⟩ x1).setCell ⟨g, 2, none⟩ x2).setCell ⟨g, 3, none⟩ x3).heap[g]? = some (.cells #[x0, x1, x2, x3, a4] T (0, 0)) := heap_setCell_same _ _ 3 _ _ _ h2
  exact heap_setCell_same _ _ 4 _ _ _ h3
theorem five_fr {w W : World} {g : Nat} {x0 x1 x2 x3 x4 : Value} (hF : Fr (fun _ => False) w W) (hg : w.heap.size ≤ g) : Fr (fun _ => False) w (((((W.setCell ⟨g, 0, none⟩ x0).setCell ⟨g, 1, none⟩ x1).setCell ⟨g, 2, none⟩ x2).setCell ⟨g, 3, none⟩ x3).setCell ⟨g, 4, none⟩ x4) :=
  ((((hF.setCell (p := ⟨g, 0, none⟩) (Or.inr hg) _).setCell (p := ⟨g, 1, none⟩) (Or.inr hg) _).setCell (p := ⟨g, 2, none⟩) (Or.inr hg) _).setCell (p := ⟨g, 3, none⟩) (Or.inr hg) _).setCell (p := ⟨g, 4, none⟩) (Or.inr hg) _
end Go.Proofs.YtgimiggffpokpaaGreatDoor.he

/-
  The document's zero, octal, put.
-/

namespace Go.Proofs.YtgimiggffpokpaaGreatDoor.he
set_option maxRecDepth 100000
open Go.RowKit Go.Maps
set_option maxRecDepth 100000

/-! ### zero -/
theorem textL_eq {s : Bts} : textL s = s ↔ (0 : UInt8) ∉ s := by
  constructor
  · intro h hm
    have h2 : ∀ y ∈ s.takeWhile (fun x => decide (x ≠ 0)), decide (y ≠ 0) = true := fun y hy => List.all_eq_true.1 List.all_takeWhile y hy
    unfold textL at h
    rw [h] at h2
    have := h2 0 hm
    simp at this
  · intro h
    have h2 := text_pad (k := 0) h
    unfold padR at h2
    rwa [Nat.zero_sub, List.replicate_zero, List.append_nil] at h2
theorem conv_rd (w : World) (s : ByteArray) : Rd (Lib.bytesWorld w 5 s) (Lib.bytesWorld w 5 s).heap.size (some ⟨w.heap.size, 0, none⟩) s.data.toList := fun _ => ⟨w.heap.size, 0, rfl, by rw [Lib.bytesWorld_size]; omega, fun j x hj => by
  have hjl := (List.getElem?_eq_some_iff.1 hj).1
  rw [Nat.zero_add, Lib.bytesWorld_cell w _ s j (by rw [Array.length_toList] at hjl; exact hjl), List.getD_eq_getElem?_getD, hj]
  rfl⟩
theorem conv_fr (w : World) (s : ByteArray) : Fr (fun _ => False) w (Lib.bytesWorld w 5 s) := by
  refine ⟨rfl, rfl, rfl, by rw [Lib.bytesWorld_size]; omega, fun i hi _ => Lib.bytesWorld_at_old w _ s i hi⟩
/-! ### octal -/
theorem octL_cons : ∀ (i X : Nat), octL (i + 1) X = UInt8.ofNat (48 + X / 8 ^ i % 8) :: octL i X
  | 0, X => by rw [octL, octL, Nat.pow_zero, Nat.div_one]; rfl
  | i + 1, X => by
    rw [octL, octL_cons i (X / 8), octL, Nat.div_div_eq_div_mul, show 8 * 8 ^ i = 8 ^ (i + 1) by rw [Nat.pow_succ, Nat.mul_comm]]
    rfl
theorem one_str (w : World) (d : Nat) (hd : d < 256) : (convert 22 9 (.slice (some ⟨w.heap.size, 0, none⟩) 1 1)).run Tryz.prog (w.alloc (.cells #[.int .u8 (d : Int)] 5)) = .ok (.string (tx [UInt8.ofNat d])) (w.alloc (.cells #[.int .u8 (d : Int)] 5)) := by
  have h := run_convert_bytes_back (P := Tryz.prog) (w.alloc (.cells #[.int .u8 (d : Int)] 5)) 22 9 5 ⟨w.heap.size, 0, none⟩ 1 [UInt8.ofNat d] Tryz.underlying22 Tryz.underlying5 Tryz.underlying9 (fun j hj => by
    obtain rfl : j = 0 := by simpa using hj
    rw [add_plain, cellAt (heap_alloc_new w _)]
    show some (Value.int .u8 (d : Int)) = some (.int .u8 ((UInt8.ofNat d).toNat : Int))
    rw [UInt8.toNat_ofNat', Nat.mod_eq_of_lt (by omega)])
  exact h
theorem tx_cons (x : UInt8) (l : Bts) : tx [x] ++ tx l = tx (x :: l) := by
  rw [tx_app, tx_toL, tx_toL]
  rfl
/-! ### put -/
/-- Bytes s laid over l from place a on, k of them. -/
def layL (l : Bts) (a : Nat) (s : Bts) (k : Nat) : Bts := l.take a ++ s.take k ++ l.drop (a + k)
theorem layL_zero (l : Bts) (a : Nat) (s : Bts) : layL l a s 0 = l := by
  unfold layL
  rw [List.take_zero, List.append_nil, Nat.add_zero, List.take_append_drop]
theorem layL_len {l s : Bts} {a k : Nat} (h : a + k ≤ l.length) (hk : k ≤ s.length) : (layL l a s k).length = l.length := by
  unfold layL
  rw [List.length_append, List.length_append, List.length_take, List.length_take, List.length_drop]
  omega
theorem layL_next {l s : Bts} {a k : Nat} (h : a + k < l.length) (hk : k < s.length) : (layL l a s k).set (a + k) s[k] = layL l a s (k + 1) := by
  unfold layL
  have h1 : (l.take a ++ s.take k).length = a + k := by rw [List.length_append, List.length_take, List.length_take]; omega
  rw [List.set_append_right _ _ (by omega), h1, Nat.sub_self, List.drop_eq_getElem_cons h, List.set_cons_zero, List.take_succ_eq_append_getElem hk]
  simp only [List.append_assoc, List.singleton_append, Nat.add_assoc]
end Go.Proofs.YtgimiggffpokpaaGreatDoor.he

/-
  The document's parted.
-/

namespace Go.Proofs.YtgimiggffpokpaaGreatDoor.he
set_option maxRecDepth 100000
open Go.RowKit Go.Maps
set_option maxRecDepth 100000

/-- A name as a prefix and a name; false: it can't be. -/
def partV (s : Bts) : Bts × Bts × Bool := match partedV s with
  | none => ([], [], false)
  | some q => (q.1, q.2, true)
/-- What is told of one place. -/
def spotV (s : Bts) (i : Nat) : Option (Bts × Bts) := if 0 < i ∧ s[i]? = some 47 ∧ i ≤ 155 ∧ 1 ≤ s.length - i - 1 ∧ s.length - i - 1 ≤ 100 then some (s.take i, s.drop (i + 1)) else none
def downV (s : Bts) (i : Nat) : Option (Bts × Bts) := (List.range i).reverse.findSome? (spotV s)
theorem down_next (s : Bts) (i : Nat) : downV s (i + 1) = (match spotV s i with
    | some q => some q
    | none => downV s i) := by
  unfold downV
  rw [List.range_succ, List.reverse_append, List.reverse_singleton, List.singleton_append, List.findSome?_cons]
  cases spotV s i <;> rfl
theorem down_one (s : Bts) : downV s 1 = none := by
  rw [down_next]
  have : spotV s 0 = none := by unfold spotV; rw [if_neg (fun h => Nat.lt_irrefl _ h.1)]
  rw [this]
  rfl
theorem parted_down {s : Bts} (h0 : s ≠ []) (h1 : ¬ s.length ≤ 100) : partedV s = downV s s.length := by
  unfold partedV
  rw [if_neg h0, if_neg h1]
  rfl
theorem ext_take (s : ByteArray) (i : Nat) : s.extract 0 i = tx (s.data.toList.take i) := by
  apply ByteArray.ext
  apply Array.toList_inj.1
  rw [Lib.extract_data]
  simp
theorem ext_drop (s : ByteArray) (i : Nat) : s.extract i s.size = tx (s.data.toList.drop i) := by
  apply ByteArray.ext
  apply Array.toList_inj.1
  rw [Lib.extract_data, List.take_of_length_le]
  rw [List.length_drop, Array.length_toList]
  exact Nat.le_refl _
end Go.Proofs.YtgimiggffpokpaaGreatDoor.he

/-
  The document's Print.
-/
namespace Go.Proofs.YtgimiggffpokpaaGreatDoor.he
set_option maxRecDepth 100000
open Go.RowKit Go.Maps
set_option maxRecDepth 100000

theorem lay_tail {Z s : Bts} {r a : Nat} (h1 : Z.length ≤ a) (h2 : a + s.length ≤ Z.length + r) : layL (Z ++ List.replicate r 0) a s s.length = (Z ++ List.replicate (a - Z.length) 0 ++ s) ++ List.replicate (Z.length + r - a - s.length) 0 := by
  unfold layL
  rw [List.take_length, List.take_append, List.take_of_length_le h1, List.take_replicate, Nat.min_eq_left (by omega), List.drop_append, List.drop_of_length_le (by omega), List.nil_append, List.drop_replicate]
  congr 2
  omega
/-- What is printed so far: bytes Z, and noughts up to 512. -/
structure PZ (w0 w : World) (A : Option Addr) (Z : Bts) : Prop where
  own : Own w w0.heap.size (.slice A 512 512) (Z ++ List.replicate (512 - Z.length) 0)
  le : Z.length ≤ 512
  fr : Fr (fun _ => False) w0 w
theorem PZ.len {w0 w : World} {A : Option Addr} {Z : Bts} (h : PZ w0 w A Z) : (Z ++ List.replicate (512 - Z.length) (0 : UInt8)).length = 512 := by
  rw [List.length_append, List.length_replicate]
  have := h.le
  omega
theorem PZ.still {w0 w w' : World} {A : Option Addr} {Z : Bts} (h : PZ w0 w A Z) (hF : Fr (fun _ => False) w w') : PZ w0 w' A Z := ⟨h.own.kept hF, h.le, h.fr.trans hF (fun _ _ e => e)⟩
theorem PZ.set {w0 w : World} {A : Option Addr} {Z : Bts} (h : PZ w0 w A Z) {a : Nat} (h1 : Z.length ≤ a) (h2 : a < 512) (x : UInt8) : ∃ g, A = some ⟨g, 0, none⟩ ∧ (∃ v, w.cell? ⟨g, a, none⟩ = some v) ∧ w.frozen? ⟨g, a, none⟩ = false ∧ PZ w0 (w.setCell ⟨g, a, none⟩ (.int .u8 (x.toNat : Int))) A (Z ++ List.replicate (a - Z.length) 0 ++ [x]) := by
  have ho := h.own
  have hl := h.len
  have hle := h.le
  unfold Own at ho
  obtain ⟨g, e, hb, hlt, hc, hf, hs⟩ := Own.at_ (l := Z ++ List.replicate (512 - Z.length) 0) (A := A) (cap := 512) (k := a) (by rw [hl]; exact h.own) (by rw [hl]; exact h2)
  have h3 := hs x
  have hset : (Z ++ List.replicate (512 - Z.length) 0).set a x = (Z ++ List.replicate (a - Z.length) 0 ++ [x]) ++ List.replicate (512 - (a + 1)) 0 := by
    have h4 := layL_next (l := Z ++ List.replicate (512 - Z.length) 0) (s := [x]) (a := a) (k := 0) (by rw [hl]; exact h2) (by simp)
    rw [layL_zero] at h4
    have h5 := lay_tail (Z := Z) (s := [x]) (r := 512 - Z.length) (a := a) h1 (by simp; omega)
    rw [show ([x] : Bts)[0] = x from rfl, Nat.add_zero] at h4
    rw [h4]
    rw [show (0 + 1) = ([x] : Bts).length from rfl, h5]
    congr 2
    simp
    omega
  have hz : (Z ++ List.replicate (a - Z.length) 0 ++ [x]).length = a + 1 := by
    rw [List.length_append, List.length_append, List.length_replicate]
    simp
    omega
  refine ⟨g, e, ⟨_, hc⟩, hf, ⟨?_, by omega, h.fr.setCell (p := ⟨g, a, none⟩) (Or.inr hb) _⟩⟩
  rw [List.length_set, hl, hset] at h3
  rw [hz]
  exact h3
theorem pz_new (w : World) : PZ w (w.alloc (.cells (zb 512) 5)) (some ⟨w.heap.size, 0, none⟩) [] := by
  have h := own_zb w 512 (by decide)
  refine ⟨?_, by decide, (Fr.refl _ w).alloc _⟩
  rw [List.length_replicate] at h
  exact h
/-! ### what is printed -/
/-- One more put. -/
def nx (Z : Bts) (a : Nat) (s : Bts) : Bts := Z ++ List.replicate (a - Z.length) 0 ++ s
theorem nx_len {Z s : Bts} {a : Nat} (h : Z.length ≤ a) : (nx Z a s).length = a + s.length := by
  unfold nx
  rw [List.length_append, List.length_append, List.length_replicate]
  omega
def pcN (name link pre : Bts) (mode size : Nat) (kind : UInt8) : Nat → Nat × Bts
  | 0 => (0, name)
  | 1 => (100, (octL 7 mode))
  | 2 => (108, (octL 7 0))
  | 3 => (116, (octL 7 0))
  | 4 => (124, (octL 11 size))
  | 5 => (136, (octL 11 0))
  | 6 => (156, [kind])
  | 7 => (157, link)
  | 8 => (257, ustar)
  | _ => (345, pre)
def zN (name link pre : Bts) (mode size : Nat) (kind : UInt8) : Nat → Bts
  | 0 => []
  | k + 1 => nx (zN name link pre mode size kind k) (pcN name link pre mode size kind k).1 (pcN name link pre mode size kind k).2
section
variable {name link pre : Bts} {mode size : Nat} {kind : UInt8}
theorem z1 : zN name link pre mode size kind 1 = nx (zN name link pre mode size kind 0) 0 name := rfl
theorem z2 : zN name link pre mode size kind 2 = nx (zN name link pre mode size kind 1) 100 (octL 7 mode) := rfl
theorem z3 : zN name link pre mode size kind 3 = nx (zN name link pre mode size kind 2) 108 (octL 7 0) := rfl
theorem z4 : zN name link pre mode size kind 4 = nx (zN name link pre mode size kind 3) 116 (octL 7 0) := rfl
theorem z5 : zN name link pre mode size kind 5 = nx (zN name link pre mode size kind 4) 124 (octL 11 size) := rfl
theorem z6 : zN name link pre mode size kind 6 = nx (zN name link pre mode size kind 5) 136 (octL 11 0) := rfl
theorem z7 : zN name link pre mode size kind 7 = nx (zN name link pre mode size kind 6) 156 [kind] := rfl
theorem z8 : zN name link pre mode size kind 8 = nx (zN name link pre mode size kind 7) 157 link := rfl
theorem z9 : zN name link pre mode size kind 9 = nx (zN name link pre mode size kind 8) 257 ustar := rfl
theorem z10 : zN name link pre mode size kind 10 = nx (zN name link pre mode size kind 9) 345 pre := rfl
theorem zN_lens (h1 : name.length ≤ 100) (h2 : link.length ≤ 100) : (zN name link pre mode size kind 1).length = name.length ∧ (zN name link pre mode size kind 2).length = 107 ∧ (zN name link pre mode size kind 3).length = 115 ∧ (zN name link pre mode size kind 4).length = 123 ∧ (zN name link pre mode size kind 5).length = 135 ∧ (zN name link pre mode size kind 6).length = 147 ∧ (zN name link pre mode size kind 7).length = 157 ∧ (zN name link pre mode size kind 8).length = 157 + link.length ∧ (zN name link pre mode size kind 9).length = 265 ∧ (zN name link pre mode size kind 10).length = 345 + pre.length := by
  have l1 : (zN name link pre mode size kind 1).length = name.length := by rw [z1, nx_len (by exact Nat.le_refl _), Nat.zero_add]
  have l2 : (zN name link pre mode size kind 2).length = 107 := by rw [z2, nx_len (by omega), octL_length]
  have l3 : (zN name link pre mode size kind 3).length = 115 := by rw [z3, nx_len (by omega), octL_length]
  have l4 : (zN name link pre mode size kind 4).length = 123 := by rw [z4, nx_len (by omega), octL_length]
  have l5 : (zN name link pre mode size kind 5).length = 135 := by rw [z5, nx_len (by omega), octL_length]
  have l6 : (zN name link pre mode size kind 6).length = 147 := by rw [z6, nx_len (by omega), octL_length]
  have l7 : (zN name link pre mode size kind 7).length = 157 := by rw [z7, nx_len (by omega)]; rfl
  have l8 : (zN name link pre mode size kind 8).length = 157 + link.length := by rw [z8, nx_len (by omega)]
  have l9 : (zN name link pre mode size kind 9).length = 265 := by rw [z9, nx_len (by omega)]; rfl
  have l10 : (zN name link pre mode size kind 10).length = 345 + pre.length := by rw [z10, nx_len (by omega)]
  exact ⟨l1, l2, l3, l4, l5, l6, l7, l8, l9, l10⟩
set_option maxHeartbeats 1000000 in
theorem zN_all (h1 : name.length ≤ 100) (h2 : link.length ≤ 100) (h3 : pre.length ≤ 155) : zN name link pre mode size kind 10 ++ List.replicate (512 - (zN name link pre mode size kind 10).length) 0 = hdrV name link pre mode size kind (List.replicate 8 0) := by
  obtain ⟨l1, l2, l3, l4, l5, l6, l7, l8, l9, l10⟩ := zN_lens (name := name) (link := link) (pre := pre) (mode := mode) (size := size) (kind := kind) h1 h2
  rw [l10]
  have e1 : zN name link pre mode size kind 1 = name := rfl
  have e2 : zN name link pre mode size kind 2 = padR 100 name ++ octL 7 mode := by rw [z2, nx, l1, e1]; rfl
  have e6 : zN name link pre mode size kind 6 = padR 100 name ++ octL 7 mode ++ [0] ++ octL 7 0 ++ [0] ++ octL 7 0 ++ [0] ++ octL 11 size ++ [0] ++ octL 11 0 := by
    rw [z6, nx, l5, z5, nx, l4, z4, nx, l3, z3, nx, l2, e2]
    rfl
  have e10 : zN name link pre mode size kind 10 = zN name link pre mode size kind 6 ++ ([0] ++ List.replicate 8 0) ++ [kind] ++ padR 100 link ++ ustar ++ List.replicate 80 0 ++ pre := by
    rw [z10, nx, l9, z9, nx, l8, z8, nx, l7, z7, nx, l6]
    generalize zN name link pre mode size kind 6 = Z6
    unfold padR
    rw [show 257 - (157 + link.length) = 100 - link.length by omega, show List.replicate (156 - 147) (0 : UInt8) = [0] ++ List.replicate 8 0 from rfl, show List.replicate (157 - 157) (0 : UInt8) = [] from rfl, show 345 - 265 = 80 from rfl, List.append_nil]
    simp only [List.append_assoc]
  have e11 : pre ++ List.replicate (512 - (345 + pre.length)) (0 : UInt8) = padR 155 pre ++ List.replicate 12 0 := by
    have hx : 512 - (345 + pre.length) = (155 - pre.length) + 12 := by omega
    unfold padR
    rw [hx, ← List.replicate_append_replicate, ← List.append_assoc]
  rw [e10, e6, List.append_assoc _ pre, e11]
  unfold hdrV preH postH
  simp only [List.append_assoc]
end
theorem lay_mid {P s t Q : Bts} (h : s.length = t.length) : layL (P ++ s ++ Q) P.length t t.length = P ++ t ++ Q := by
  unfold layL
  rw [List.take_length, show P ++ s ++ Q = P ++ (s ++ Q) from List.append_assoc _ _ _, List.take_left, ← List.drop_drop, List.drop_left, ← h, List.drop_left]
/-- What Print answers. -/
def PrA (w : World) (V : Bts × Int) (e : Ending) (w' : World) : Prop := ∃ A cap, e = .returned (.tuple #[.slice A V.1.length cap, .int .i64 V.2]) ∧ Own w' w.heap.size (.slice A V.1.length cap) V.1 ∧ Fr (fun _ => False) w w'
theorem PrA.no {w w' : World} {k : Int} (hF : Fr (fun _ => False) w w') : PrA w ([], k) (.returned (.tuple #[.slice none 0 0, .int .i64 k])) w' := ⟨none, 0, rfl, World.ownsRow_nil _ _ _ _, hF⟩
end Go.Proofs.YtgimiggffpokpaaGreatDoor.he

/-
  The document's Print, walked.
-/
namespace Go.Proofs.YtgimiggffpokpaaGreatDoor.he
set_option maxRecDepth 100000
open Go.RowKit Go.Maps
set_option maxRecDepth 100000

theorem print_bad {h : Hd} (hm : ¬ mayH h) : printV h = ([], 2) := by
  unfold printV
  cases partedV h.name with
  | none => rfl
  | some q => exact if_neg hm
theorem print_good {h : Hd} {q : Bts × Bts} (hq : partedV h.name = some q) (hm : mayH h) : printV h = (printB h q, 0) := by
  unfold printV
  rw [hq]
  exact if_pos hm
theorem own_base {w : World} {base base' n : Nat} {v : Value} {xs : List Value} (h : w.ownsRow base 5 1 v n xs) (hb : base' ≤ base) : w.ownsRow base' 5 1 v n xs := by
  refine ⟨h.1, ?_⟩
  rcases h.2 with e | ⟨g, cap, cur, e, hg, r⟩
  · exact Or.inl e
  · exact Or.inr ⟨g, cap, cur, e, by omega, r⟩
end Go.Proofs.YtgimiggffpokpaaGreatDoor.he

/-
  The document's Print where it prints; the document's Print, whole.
-/
namespace Go.Proofs.YtgimiggffpokpaaGreatDoor.he
set_option maxRecDepth 100000
open Go.RowKit Go.Maps
set_option maxRecDepth 100000

/-- The first k pieces of a header are printed. -/
def PQ (w0 w : World) (A : Option Addr) (name link pre : Bts) (mode size : Nat) (kind : UInt8) (k : Nat) : Prop := PZ w0 w A (zN name link pre mode size kind k)
section
variable {w0 w w' : World} {A : Option Addr} {name link pre : Bts} {mode size : Nat} {kind : UInt8} {k : Nat}
theorem PQ.still (h : PQ w0 w A name link pre mode size kind k) (hF : Fr (fun _ => False) w w') : PQ w0 w' A name link pre mode size kind k := PZ.still h hF
theorem PQ.fr (h : PQ w0 w A name link pre mode size kind k) : Fr (fun _ => False) w0 w := PZ.fr h
theorem PQ.kind_ (h : PQ w0 w A name link pre mode size kind 6) (h1 : (zN name link pre mode size kind 6).length ≤ 156) : ∃ g, A = some ⟨g, 0, none⟩ ∧ (∃ v, w.cell? ⟨g, 156, none⟩ = some v) ∧ w.frozen? ⟨g, 156, none⟩ = false ∧ PQ w0 (w.setCell ⟨g, 156, none⟩ (.int .u8 (kind.toNat : Int))) A name link pre mode size kind 7 := PZ.set h h1 (by decide) kind
theorem PQ.done (h : PQ w0 w A name link pre mode size kind 10) (h1 : name.length ≤ 100) (h2 : link.length ≤ 100) (h3 : pre.length ≤ 155) : Own w w0.heap.size (.slice A 512 512) (hdrV name link pre mode size kind (List.replicate 8 0)) := by
  have := PZ.own h
  rw [zN_all h1 h2 h3] at this
  exact this
end
end Go.Proofs.YtgimiggffpokpaaGreatDoor.he

/-
  HeadReads, HeadWrites over what is asked of the program's headers.
-/
namespace Go.Proofs.YtgimiggffpokpaaGreatDoor.he
set_option maxRecDepth 100000
open Go.RowKit Go.Maps
set_option maxRecDepth 100000

end Go.Proofs.YtgimiggffpokpaaGreatDoor.he
