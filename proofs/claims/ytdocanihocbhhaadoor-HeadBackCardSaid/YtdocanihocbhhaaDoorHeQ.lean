/-
  What is asked of the program's headers; the law's works.
-/
import Derived.Test.YtdocanihocbhhaaDoorHeA
import Derived.Shelf.Abstract
import Derived.Lib.SlBytesConst
namespace Go.Proofs.YtdocanihocbhhaaDoor.he
set_option maxRecDepth 100000
open Go.RowKit Go.Maps
set_option maxRecDepth 100000

abbrev Big (n : Int) : Prop := -9223372036854775808 ≤ n ∧ n ≤ 9223372036854775807
abbrev sV (l : Bts) : Value := .string ⟨l.toArray⟩
abbrev hdV (h : Hd) : Value := .agg #[sV h.name, sV h.link, .int .i64 h.mode, .int .i64 h.size, .int .u8 (h.kind.toNat : Int)]
structure WfH (h : Hd) : Prop where
  name : h.name.length ≤ 140737488351232
  link : h.link.length ≤ 140737488351232
  mode : Big h.mode
  size : Big h.size
/-- The program's headers, as the chapter has them. D: what lies in the program's data. -/
structure HeadP (D : World → Prop) : Prop where
  d_keep : ∀ {w w' : World}, D w → Fr (fun _ => False) w w' → D w'
  parse : ∀ (w : World) (A : Option Addr) (cap : Nat) (b : Bts), Rd w w.heap.size A b → (A = none → cap = 0) → b.length ≤ cap → b.length ≤ 140737488351232 → D w → Calls Tryd.prog 10 #[.slice A b.length cap] w fun e w' => e = .returned (.tuple #[hdV (parseV b).1, .int .i64 (parseV b).2]) ∧ Fr (fun _ => False) w w'
  print : ∀ (w : World) (h : Hd), WfH h → D w → Calls Tryd.prog 20 #[hdV h] w fun e w' => ∃ A cap, e = .returned (.tuple #[.slice A (printV h).1.length cap, .int .i64 (printV h).2]) ∧ Own w' w.heap.size (.slice A (printV h).1.length cap) (printV h).1 ∧ Fr (fun _ => False) w w'
  sum : ∀ (w : World) (A : Option Addr) (cap : Nat) (b : Bts), Rd w w.heap.size A b → (A = none → cap = 0) → b.length ≤ cap → b.length ≤ 140737488351232 → D w → Calls Tryd.prog 12 #[.slice A b.length cap] w fun e w' => e = .returned (.int .i64 (sumV b : Nat)) ∧ Fr (fun _ => False) w w'
  octal : ∀ (w : World) (A : Option Addr) (cap : Nat) (b : Bts), Rd w w.heap.size A b → (A = none → cap = 0) → b.length ≤ cap → b.length ≤ 140737488351232 → D w → cap ≤ maxLen → Calls Tryd.prog 18 #[.slice A b.length cap] w fun e w' => e = .returned (.tuple #[.int .i64 (octalV b).1, .int .i64 (octalV b).2]) ∧ Fr (fun _ => False) w w'
  empty : ∀ (w : World) (A : Option Addr) (cap : Nat) (b : Bts), Rd w w.heap.size A b → (A = none → cap = 0) → b.length ≤ cap → b.length ≤ 140737488351232 → D w → cap ≤ maxLen → Calls Tryd.prog 14 #[.slice A b.length cap] w fun e w' => e = .returned (.bool (emptyV b)) ∧ Fr (fun _ => False) w w'
def exH : Hd := ⟨[97], [], 0, 1, 48⟩
theorem ex_print : (printV exH).2 = 0 ∧ (((printV exH).1.drop 124).take 11) = [48, 48, 48, 48, 48, 48, 48, 48, 48, 48, 49] := by decide +kernel
theorem ex_eq : (printV exH).1.length = 512 ∧ parseV (printV exH).1 = (exH, 0) := by
  have hp : printV exH = ((printV exH).1, 0) := by
    have := ex_print.1
    exact Prod.ext rfl this
  exact ⟨(print_sum hp).1, (parse_print hp).1⟩
theorem ex_wf : WfH exH := ⟨by decide, by decide, by decide, by decide⟩
theorem ex_empty : emptyV (List.replicate 512 0) = true := by decide +kernel
theorem wpList_textG {P : Program} {w : World} {ops : Array Oper} {rest : List Oper} {o : Oper} {a : Act} {Q : Exit → Act → World → Prop} (x : Operand) (src dst e : TypeId) (ho : o.op = .convert src dst x)
    (hs : P.underlying src = some (.slice e)) (he : P.underlying e = some (.int .u8)) (hd : P.underlying dst = some .string) (ad : Addr) (n cap : Nat) (l : List UInt8) (hn : l.length = n) (hw : Region.wanted o (yielded ops a.tmps) = true) (hx : a.eval x = .slice (some ad) n cap)
    (hc : ∀ j (hj : j < l.length), w.cell? (ad.add j) = some (.int .u8 (l[j].toNat : Int)))
    (h : wpList P ops Q rest (a.put o.dst (.string ⟨l.toArray⟩)) w) : wpList P ops Q (o :: rest) a w := by
  subst hn
  refine wpList_step fun K hK => ?_
  rw [if_pos hw]
  have hr := run_convert_bytes_back (P := P) w src dst e ad cap l hs he hd hc
  unfold Oper.wp
  simp only [execOp, ho, hx, hr, Sem.run_bind, Sem.run_pure, Result.andThen_ok]
  exact hK _ _ h
abbrev octC : Array Value := #[.int .u8 48, .int .u8 48, .int .u8 48, .int .u8 48, .int .u8 54, .int .u8 52, .int .u8 52, .int .u8 32]
theorem oct_row (w : World) : Rd (w.alloc (.cells octC 5 (8, 9))) (w.alloc (.cells octC 5 (8, 9))).heap.size (some ⟨w.heap.size, 0, none⟩) [48, 48, 48, 48, 54, 52, 52, 32] := fun _ => ⟨w.heap.size, 0, rfl, by rw [World.size_alloc]; omega, fun j y hj => by
  rw [Nat.zero_add, World.cell?_alloc_mark, show octC = (bs [48, 48, 48, 48, 54, 52, 52, 32]).toArray from rfl]
  simp [bs_get, hj]⟩
set_option maxHeartbeats 4000000 in
theorem works_any {D : World → Prop} (HP : HeadP D) (w : World) (hd : D w) : Calls Tryd.prog 17 #[] w fun e w' => e = .returned (.bool true) ∧ Fr (fun _ => False) w w' := by
  have HPP := Lib.hid HP
  have HDD := Lib.hid hd
  clear HP hd
  go_enter Tryd.func17, Tryd.ntmps17
  go_wp2_with fail
  refine (HPP.out.print _ exH ex_wf HDD.out).mono ?_
  rintro e w1 ⟨A, cap, rfl, ho, hF⟩
  obtain ⟨B, hB⟩ : ∃ B, B = (printV exH).1 := ⟨_, rfl⟩
  have hl := ex_eq.1
  have hps := ex_eq.2
  have hdg := ex_print.2
  rw [ex_print.1]
  rw [← hB] at ho hl hps hdg ⊢
  rw [hl]
  obtain ⟨g, rfl, hg1, hg2, -⟩ := ho.at_ (k := 0) (by omega)
  have hcap : 512 ≤ cap := by
    rcases ho.2 with ⟨e, _⟩ | ⟨_, _, _, e, _, _, hn, _⟩
    · cases e
    · cases e; omega
  have HR := Lib.hid (show Rd w1 w1.heap.size (some ⟨g, 0, none⟩) B from ho.rd)
  have HB := Lib.hid (⟨hl, hdg⟩ : _ ∧ _)
  have HF1 := Lib.hid hF
  have HPA := Lib.hid (HPP.out.parse w1 (some ⟨g, 0, none⟩) cap B HR.out (fun e => by cases e) (by omega) (by omega) (HPP.out.d_keep HDD.out HF1.out))
  rw [hl, hps] at HPA
  have HPA := Lib.hid (show Calls Tryd.prog 10 #[.slice (some ⟨g, 0, none⟩) 512 cap] w1 fun e w' => e = .returned (.tuple #[hdV exH, .int .i64 0]) ∧ Fr (fun _ => False) w1 w' from HPA.out)
  rw [show hdV exH = .agg #[.string ⟨#[97]⟩, .string ⟨#[]⟩, .int .i64 0, .int .i64 1, .int .u8 48] from rfl] at HPA
  clear ho hF hB hl hps hdg hg1 hg2
  go_wp2_with fail
  refine HPA.out.mono ?_
  rintro e w2 ⟨rfl, hF⟩
  have HF2 := Lib.hid (⟨hF, HF1.out.trans hF (fun _ _ e => e)⟩ : _ ∧ _)
  clear hF HPA
  obtain ⟨o, ho⟩ : ∃ o : Obj, o = .cells #[.string ⟨#[97]⟩, .string ⟨#[]⟩, .int .i64 0, .int .i64 1, .int .u8 48] 25 := ⟨_, rfl⟩
  have hsz : (w2.alloc o).heap.size = w2.heap.size + 1 := World.size_alloc _ _
  have kc : (convert 22 22 (.slice (some ⟨w2.heap.size + 1, 0, none⟩) 8 8)).run Tryd.prog ((w2.alloc o).alloc (.cells octC 5)) = .ok (.slice (some ⟨w2.heap.size + 1, 0, none⟩) 8 8) ((w2.alloc o).alloc (.cells octC 5 (8, 9))) := by
    rw [← hsz]
    exact Lib.run_convert_bytes_const (P := Tryd.prog) (w2.alloc o) 22 5 octC 8 8 Tryd.underlying22 Tryd.underlying5
  have HOC := Lib.hid (HPP.out.octal _ (some ⟨(w2.alloc o).heap.size, 0, none⟩) 8 [48, 48, 48, 48, 54, 52, 52, 32] (oct_row (w2.alloc o)) (fun e => by cases e) (by decide) (by decide) (HPP.out.d_keep HDD.out ((HF2.out.2.alloc _).alloc _)) (by decide))
  rw [ex_octal, hsz] at HOC
  have HO := Lib.hid ho
  rw [ho] at kc HOC
  clear ho hsz
  go_wp2_with fail
  refine HOC.out.mono ?_
  rintro e w3 ⟨rfl, hF⟩
  have hF3 : Fr (fun _ => False) w2 w3 := (((Fr.refl (fun _ => False) w2).alloc _).alloc _).trans hF (fun _ _ e => e)
  have hob3 : w3.heap[w2.heap.size]? = some (.cells #[.string ⟨#[97]⟩, .string ⟨#[]⟩, .int .i64 0, .int .i64 1, .int .u8 48] 25) := by
    have hF4 : Fr (fun _ => False) (w2.alloc (.cells #[.string ⟨#[97]⟩, .string ⟨#[]⟩, .int .i64 0, .int .i64 1, .int .u8 48] 25)) w3 := ((Fr.refl (fun _ => False) _).alloc _).trans hF (fun _ _ e => e)
    rw [hF4.block w2.heap.size (by rw [World.size_alloc]; omega) (fun e => e)]
    exact heap_alloc_new _ _
  have HF3 := Lib.hid (⟨HF2.out.2.trans hF3 (fun _ _ e => e), ((HR.out.still HF2.out.1 (Nat.le_refl _)).still hF3 HF2.out.1.size)⟩ : Fr (fun _ => False) w w3 ∧ Rd w3 w1.heap.size (some ⟨g, 0, none⟩) B)
  have HD := Lib.hid (show ∀ j (hj : j < ([48, 48, 48, 48, 48, 48, 48, 48, 48, 48, 49] : Bts).length), w3.cell? (({ block := g, off := 124, spot := none } : Addr).add j) = some (.int .u8 ((([48, 48, 48, 48, 48, 48, 48, 48, 48, 48, 49] : Bts)[j]).toNat : Int)) from fun j hj => by
    have hj2 : j < 11 := hj
    obtain ⟨blk, off, e, hblk, hc⟩ := HF3.out.2 (by
      intro e
      have := HB.out.1
      rw [e] at this
      cases this)
    cases e
    have hb : B[124 + j]? = some (([48, 48, 48, 48, 48, 48, 48, 48, 48, 48, 49] : Bts)[j]) := by
      have h2 : (List.take 11 (List.drop 124 B))[j]? = B[124 + j]? := by
        rw [List.getElem?_take_of_lt hj2, List.getElem?_drop]
      rw [← h2, HB.out.2]
      exact List.getElem?_eq_getElem hj
    have := hc (124 + j) _ hb
    rw [Nat.zero_add] at this
    rw [add_plain]
    exact this)
  have hcv : (convert 22 9 (.slice (some ⟨g, 124, none⟩) 11 (cap - 124))).run Tryd.prog w3 = .ok (.string ⟨#[48, 48, 48, 48, 48, 48, 48, 48, 48, 48, 49]⟩) w3 :=
    run_convert_bytes_back (P := Tryd.prog) w3 22 9 5 ⟨g, 124, none⟩ (cap - 124) [48, 48, 48, 48, 48, 48, 48, 48, 48, 48, 49] Tryd.underlying22 Tryd.underlying5 Tryd.underlying9 HD.out
  have hcell : ∀ k, k < 5 → w3.cell? ⟨w2.heap.size, k, none⟩ = (#[.string ⟨#[97]⟩, .string ⟨#[]⟩, .int .i64 0, .int .i64 1, .int .u8 48] : Array Value)[k]? := fun k _ => by
    unfold World.cell?
    rw [hob3]
    rfl
  have c0 : w3.cell? ⟨w2.heap.size, 0, none⟩ = some (.string ⟨#[97]⟩) := hcell 0 (by omega)
  have c1 : w3.cell? ⟨w2.heap.size, 1, none⟩ = some (.string ⟨#[]⟩) := hcell 1 (by omega)
  have c2 : w3.cell? ⟨w2.heap.size, 2, none⟩ = some (.int .i64 0) := hcell 2 (by omega)
  have c3 : w3.cell? ⟨w2.heap.size, 3, none⟩ = some (.int .i64 1) := hcell 3 (by omega)
  have c4 : w3.cell? ⟨w2.heap.size, 4, none⟩ = some (.int .u8 48) := hcell 4 (by omega)
  obtain ⟨w4, hmk, ho4, hF4⟩ : ∃ w4, (Instr.makeSlice 22 (.int .i64 512) (.int .i64 512)).run Tryd.prog w3 = .ok (.slice (some ⟨w3.heap.size, 0, none⟩) 512 512) w4 ∧ Own w4 w3.heap.size (.slice (some ⟨w3.heap.size, 0, none⟩) 512 512) (List.replicate 512 0) ∧ Fr (fun _ => False) w3 w4 := ⟨_, run_make_bytes 512 (by omega) w3, own_zb w3 512 (by omega), (Fr.refl _ w3).alloc _⟩
  have hr4 : Rd w4 w4.heap.size (some ⟨w3.heap.size, 0, none⟩) (List.replicate 512 0) := by
    have h : Own w4 w3.heap.size (.slice (some ⟨w3.heap.size, 0, none⟩) (List.replicate 512 (0 : UInt8)).length 512) (List.replicate 512 0) := by
      rw [List.length_replicate]
      exact ho4
    exact h.rd
  have HE := Lib.hid (HPP.out.empty w4 (some ⟨w3.heap.size, 0, none⟩) 512 (List.replicate 512 0) hr4 (fun e => by cases e) (by rw [List.length_replicate]; omega) (by rw [List.length_replicate]; omega) (HPP.out.d_keep HDD.out (HF3.out.1.trans hF4 (fun _ _ e => e))) (by decide))
  rw [List.length_replicate, ex_empty] at HE
  have HF4 := Lib.hid (HF3.out.1.trans hF4 (fun _ _ e => e))
  clear hF hF3 kc HOC HO hob3 hcell ho4 hr4 hF4 HB HR
  go_wp2_with fail
  refine HE.out.mono ?_
  rintro e w5 ⟨rfl, hF5⟩
  have HF5 := Lib.hid (HF4.out.trans hF5 (fun _ _ e => e))
  clear hF5
  go_wp2_with fail
  go_ret
  exact ⟨rfl, HF5.out⟩
end Go.Proofs.YtdocanihocbhhaaDoor.he
