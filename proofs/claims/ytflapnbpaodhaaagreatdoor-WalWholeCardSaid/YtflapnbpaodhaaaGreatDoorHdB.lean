/-
  Blocks in a row; the header's mark.
-/
import Derived.Test.YtflapnbpaodhaaaGreatDoorHdG
import Derived.Test.YtflapnbpaodhaaaGreatDoorJC
import Derived.Lib.BufferWrite
namespace Go.Proofs.YtflapnbpaodhaaaGreatDoor.hd
set_option maxRecDepth 100000
open Go.RowKit Go.Maps

/-- A sector with its home, as it lies in memory. -/
def BkAt (w : World) (B blk off : Nat) (x : Int × List UInt8) : Prop :=
  w.cell? ⟨blk, off, none⟩ = some (.int .i64 x.1) ∧ ∃ A cap, w.cell? ⟨blk, off + 1, none⟩ = some (.slice A x.2.length cap) ∧ Rd w B A x.2
theorem BkAt.kept {w w' : World} {B blk off : Nat} {x : Int × List UInt8} (h : BkAt w B blk off x) (hF : Fr (fun _ => False) w w') (hB : B ≤ w.heap.size) (hb : blk < B) : BkAt w' B blk off x := by
  obtain ⟨h1, A, cap, h2, h3⟩ := h
  exact ⟨(World.cell?_of_block (w := w) (w' := w') (a := ⟨blk, off, none⟩) (hF.block blk (by omega) id)).trans h1, A, cap, (World.cell?_of_block (w := w) (w' := w') (a := ⟨blk, off + 1, none⟩) (hF.block blk (by omega) id)).trans h2, h3.still hF hB⟩
/-- .. in a row. -/
def Bks (w : World) (B : Nat) (p : Option Addr) (l : List (Int × List UInt8)) : Prop :=
  l ≠ [] → ∃ blk off, p = some ⟨blk, off, none⟩ ∧ blk < B ∧ ∀ i x, l[i]? = some x → BkAt w B blk (off + i * 2) x
theorem Bks.kept {w w' : World} {B : Nat} {p : Option Addr} {l : List (Int × List UInt8)} (h : Bks w B p l) (hF : Fr (fun _ => False) w w') (hB : B ≤ w.heap.size) : Bks w' B p l := fun hne => by
  obtain ⟨blk, off, hp, hb, hx⟩ := h hne
  exact ⟨blk, off, hp, hb, fun i x hi => (hx i x hi).kept hF hB hb⟩

theorem BkAt.more {w : World} {B B' blk off : Nat} {x : Int × List UInt8} (h : BkAt w B blk off x) (hB : B ≤ B') : BkAt w B' blk off x := by
  obtain ⟨h1, A, cap, h2, h3⟩ := h
  exact ⟨h1, A, cap, h2, h3.more hB⟩
theorem Bks.more {w : World} {B B' : Nat} {p : Option Addr} {l : List (Int × List UInt8)} (h : Bks w B p l) (hB : B ≤ B') : Bks w B' p l := fun hne => by
  obtain ⟨blk, off, hp, hb, hx⟩ := h hne
  exact ⟨blk, off, hp, by omega, fun i x hi => (hx i x hi).more hB⟩

/-- The mark, and noughts. -/
def markL : List UInt8 := [83, 76, 79, 71] ++ List.replicate 252 0
theorem markL_length : markL.length = 256 := by simp [markL]
theorem wpList_copyMark {ops : Array Oper} {rest : List Oper} {o : Oper} {a : Act} {w : World} {Q : Exit → Act → World → Prop} (hgd : o.guard = none) (d : Operand)
    (ho : o.op = .call { callee := .builtin .copy, args := #[d, .const (.string { data := #[83, 76, 79, 71] })], argTypes := #[33, 9] }) (g : Nat) (hd : a.eval d = .slice (some ⟨g, 0, none⟩) 256 256)
    (hg : w.heap[g]? = some (.cells (secC noughts) 100 (0, 0)))
    (h : ∀ w', w'.heap[g]? = some (.cells (secC markL) 100 (0, 0)) → Fr (· = g) w w' → w'.heap.size = w.heap.size → wpList Tryz.prog ops Q rest (a.put o.dst (goInt 4)) w') :
    wpList Tryz.prog ops Q (o :: rest) a w := by
  have hr := Lib.run_copy_row_string (P := Tryz.prog) w 33 9 o.type 5 g 0 256 256 { data := #[83, 76, 79, 71] } (secC noughts) 100 Tryz.underlying33 (by kernel_rfl) hg (by decide) (by rw [secC_size, noughts_length]; decide)
  have hm : ((secC noughts).toList.take 0 ++ Lib.byteCells ({ data := #[83, 76, 79, 71] } : ByteArray).data.toList ++ (secC noughts).toList.drop (0 + ({ data := #[83, 76, 79, 71] } : ByteArray).size)).toArray = secC markL := by kernel_rfl
  rw [hm] at hr
  have key := h _ (setRow_heap w g _ _ _ _ hg) ⟨rfl, rfl, rfl, by simp [World.setRow], fun i _ hi => setRow_other w g i _ hi⟩ (by simp [World.setRow])
  refine wpList_plain hgd fun K hK => ?_
  unfold Oper.wp
  have hs : a.eval (.const (.string { data := #[83, 76, 79, 71] })) = .string { data := #[83, 76, 79, 71] } := rfl
  simp [execOp, ho, resolve, invoke, builtin, hd, hs, hr, Result.andThen]
  exact hK _ _ key
end Go.Proofs.YtflapnbpaodhaaaGreatDoor.hd
