/-
  Slices of bytes: what is read out of them, the helpers Bytes, SameBytes, Among.
-/
import Derived.Test.YtoikgnmhnlcbhaaDoorProg
import Derived.Test.YtoikgnmhnlcbhaaDoorMem
import Derived.Laws.CopyOwn
import Derived.Laws.MakeOwn
import Derived.Laws.OwnMore
import Derived.Laws.BitsLemmas
import Derived.Laws.AppendOwnNone
import Derived.Deep.LoopGhost
import Derived.Deep.QuietTactic
import Derived.BigQuiet
import Derived.Deep.Slices
import Derived.ChangeArms
import Derived.ChangeSlices
import Derived.OpenShut
import Derived.SizedLaws
namespace Go.Proofs.YtoikgnmhnlcbhaaDoor
set_option maxRecDepth 100000
open Go.RowKit Go.Maps Go.ChangeShapes Go.WideShapes Go.Deep

/-- Nothing has turned but the draws. -/
def Calm (w w' : World) : Prop := ∃ n, w' = w.drewN n
theorem Calm.refl (w : World) : Calm w w := ⟨0, rfl⟩
theorem Calm.trans {a b c : World} (h : Calm a b) (k : Calm b c) : Calm a c := by
  obtain ⟨n, rfl⟩ := h
  obtain ⟨m, rfl⟩ := k
  exact ⟨n + m, by simp [World.drewN, Nat.add_assoc]⟩
theorem Calm.fr {a b : World} (h : Calm a b) : Fr (fun _ => False) a b := by
  obtain ⟨n, rfl⟩ := h
  exact (Fr.refl _ a).drewN n
theorem Calm.cell {a b : World} (h : Calm a b) (x : Addr) : b.cell? x = a.cell? x := by
  obtain ⟨n, rfl⟩ := h
  rfl
theorem Calm.size {a b : World} (h : Calm a b) : b.heap.size = a.heap.size := by
  obtain ⟨n, rfl⟩ := h
  rfl

theorem cellsU : Tryd.prog.cellsOf 5 = 1 := by kernel_rfl
theorem laidOut : laidOutB Tryd.prog = true := by kernel_rfl
theorem bytesU : Tryd.prog.bytesOf 5 = 1 := by kernel_rfl
theorem infoB : (Tryd.prog.info? 5).map (fun i => (i.zero, i.size, i.bytes)) = some (some (.int .u8 0), 1, 1) := by kernel_rfl

/-- Bytes as cells. -/
def bs (l : List UInt8) : List Value := l.map fun b => .int .u8 (b.toNat : Int)
theorem bs_length (l : List UInt8) : (bs l).length = l.length := by unfold bs; rw [List.length_map]
theorem bs_append (a b : List UInt8) : bs (a ++ b) = bs a ++ bs b := by unfold bs; rw [List.map_append]
theorem bs_get (l : List UInt8) (j : Nat) : (bs l)[j]? = l[j]?.map fun b => .int .u8 (b.toNat : Int) := by unfold bs; rw [List.getElem?_map]
theorem bs_one (l : List UInt8) : ∀ u ∈ bs l, u.oneCell' = true := by
  unfold bs
  intro u hu
  obtain ⟨b, _, rfl⟩ := List.mem_map.1 hu
  rfl
theorem bs_set (l : List UInt8) (k : Nat) (c : UInt8) : (bs l).set k (.int .u8 (c.toNat : Int)) = bs (l.set k c) := by unfold bs; rw [List.map_set]

theorem bits_xor8 (a b : UInt8) : bits .xor .u8 (a.toNat : Int) (b.toNat : Int) = ((a ^^^ b).toNat : Int) := by
  have ha := a.toNat_lt
  have hb := b.toNat_lt
  have h1 : (BitVec.ofInt 8 (a.toNat : Int)).toNat = a.toNat := by rw [BitVec.ofInt_natCast, BitVec.toNat_ofNat]; exact Nat.mod_eq_of_lt (by omega)
  have h2 : (BitVec.ofInt 8 (b.toNat : Int)).toNat = b.toNat := by rw [BitVec.ofInt_natCast, BitVec.toNat_ofNat]; exact Nat.mod_eq_of_lt (by omega)
  show IntKind.u8.wrap ((BitVec.ofInt 8 (a.toNat : Int) ^^^ BitVec.ofInt 8 (b.toNat : Int)).toNat : Int) = _
  rw [BitVec.toNat_xor, h1, h2, UInt8.toNat_xor, IntKind.wrap_u8]
  have : a.toNat ^^^ b.toNat < 2 ^ 8 := Nat.xor_lt_two_pow (by omega) (by omega)
  omega
/-- A slice at A reads as these bytes; it lies below block B. -/
def Rd (w : World) (B : Nat) (A : Option Addr) (l : List UInt8) : Prop :=
  l ≠ [] → ∃ blk off, A = some ⟨blk, off, none⟩ ∧ blk < B ∧ ∀ j x, l[j]? = some x → w.cell? ⟨blk, off + j, none⟩ = some (.int .u8 (x.toNat : Int))

theorem Rd.nil (w : World) (B : Nat) (A : Option Addr) : Rd w B A [] := fun h => absurd rfl h
theorem Rd.kept {w w' : World} {B : Nat} {A : Option Addr} {l : List UInt8} (h : Rd w B A l) {S : Nat → Prop} (hF : Fr S w w') (hB : B ≤ w.heap.size) (hS : ∀ i, i < B → ¬ S i) : Rd w' B A l := fun hne => by
  obtain ⟨blk, off, hp, hb, hc⟩ := h hne
  exact ⟨blk, off, hp, hb, fun j x hj => (World.cell?_of_block (w := w) (w' := w') (hF.block blk (by omega) (hS blk hb))).trans (hc j x hj)⟩
theorem Rd.calm {w w' : World} {B : Nat} {A : Option Addr} {l : List UInt8} (h : Rd w B A l) (hC : Calm w w') : Rd w' B A l := fun hne => by
  obtain ⟨blk, off, hp, hb, hc⟩ := h hne
  exact ⟨blk, off, hp, hb, fun j x hj => (hC.cell _).trans (hc j x hj)⟩
theorem Rd.still {w w' : World} {B : Nat} {A : Option Addr} {l : List UInt8} (h : Rd w B A l) (hF : Fr (fun _ => False) w w') (hB : B ≤ w.heap.size) : Rd w' B A l := h.kept hF hB (fun _ _ e => e)
theorem Rd.more {w : World} {B B' : Nat} {A : Option Addr} {l : List UInt8} (h : Rd w B A l) (hB : B ≤ B') : Rd w B' A l := fun hne => by
  obtain ⟨blk, off, hp, hb, hc⟩ := h hne
  exact ⟨blk, off, hp, by omega, hc⟩
theorem Rd.at_ {w : World} {B : Nat} {A : Option Addr} {l : List UInt8} (h : Rd w B A l) {k : Nat} (hk : k < l.length) :
    ∃ blk off, A = some ⟨blk, off, none⟩ ∧ blk < B ∧ w.cell? ⟨blk, off + k, none⟩ = some (.int .u8 (l[k].toNat : Int)) := by
  obtain ⟨blk, off, hp, hb, hc⟩ := h (by intro e; subst e; simp at hk)
  exact ⟨blk, off, hp, hb, hc k _ (List.getElem?_eq_getElem hk)⟩
theorem Rd.take {w : World} {B : Nat} {A : Option Addr} {l : List UInt8} (h : Rd w B A l) (k : Nat) : Rd w B A (l.take k) := fun hne => by
  obtain ⟨blk, off, hp, hb, hc⟩ := h (by intro e; subst e; exact hne (by simp))
  refine ⟨blk, off, hp, hb, fun j x hj => hc j x ?_⟩
  rw [List.getElem?_take] at hj
  split at hj
  · exact hj
  · cases hj
theorem add_plain (b o j : Nat) : (⟨b, o, none⟩ : Addr).add j = ⟨b, o + j, none⟩ := by unfold Addr.add; split <;> simp_all
theorem Rd.drop {w : World} {B : Nat} {A : Option Addr} {l : List UInt8} (h : Rd w B A l) {k cap : Nat} (hc : l.length ≤ cap) : Rd w B (if cap = k then A else A.map (·.add k)) (l.drop k) := fun hne => by
  have hk : k < l.length := by
    apply Decidable.byContradiction
    intro hn
    exact hne (List.drop_eq_nil_of_le (by omega))
  obtain ⟨blk, off, rfl, hb, hcell⟩ := h (by intro e; subst e; simp at hk)
  rw [if_neg (by omega)]
  refine ⟨blk, off + k, by simp [add_plain], hb, fun j x hj => ?_⟩
  rw [List.getElem?_drop] at hj
  have := hcell (k + j) x hj
  rwa [← Nat.add_assoc] at this
theorem add_zero (a : Addr) : a.add 0 = a := if_pos rfl
set_option maxRecDepth 100000 in
/-- b[:k], b[k:]. -/
theorem cut_low (w : World) (A : Option Addr) (n c k : Nat) (hk : k ≤ c) :
    (Instr.slice 22 (.slice A n c) none (some (.int .i64 (k : Int))) none).run Tryd.prog w = .ok (.slice A k c) w := by
  rw [run_slice_h w 22 A n c Tryd.underlying22 .i64 k (by omega) (by omega)]
  have hs : (sizeOf (Tryd.prog.elem 22)).run Tryd.prog w = .ok 1 w := by kernel_rfl
  rw [hs]
  simp only [Result.andThen, sliced, Int.toNat_natCast, Nat.zero_mul, Nat.sub_zero]
  have : A.map (·.add 0) = A := by cases A <;> simp [add_zero]
  rw [this, ite_self]
set_option maxRecDepth 100000 in
theorem cut_high (w : World) (B : Nat) (A : Option Addr) (l : List UInt8) (n c k : Nat) (hr : Rd w B A l) (hn : l.length = n) (hc : n ≤ c) (hk : k ≤ n) :
    ∃ A', (Instr.slice 22 (.slice A n c) (some (.int .i64 (k : Int))) none none).run Tryd.prog w = .ok (.slice A' (n - k) (c - k)) w ∧ Rd w B A' (l.drop k) := by
  refine ⟨if c = k then A else A.map (·.add k), ?_, hr.drop (by omega)⟩
  rw [run_slice_l w 22 A n c Tryd.underlying22 .i64 k (by omega) (by omega)]
  have hs : (sizeOf (Tryd.prog.elem 22)).run Tryd.prog w = .ok 1 w := by kernel_rfl
  rw [hs]
  simp only [Result.andThen, sliced, Int.toNat_natCast, Nat.mul_one]
theorem Rd.src {w : World} {B : Nat} {ad : Addr} {l : List UInt8} (h : Rd w B (some ad) l) : ∀ j u, (bs l)[j]? = some u → w.cell? (ad.add j) = some u := by
  intro j u hu
  rw [bs_get] at hu
  obtain ⟨b, hb, rfl⟩ := Option.map_eq_some_iff.1 hu
  obtain ⟨blk, off, hp, _, hc⟩ := h (by intro e; subst e; simp at hb)
  cases hp
  rw [add_plain]
  exact hc j b hb

/-- A slice at A reads as these numbers. -/
def RdI (w : World) (B : Nat) (A : Option Addr) (l : List Int) : Prop :=
  (l ≠ [] → ∃ blk off, A = some ⟨blk, off, none⟩ ∧ blk < B ∧ ∀ j x, l[j]? = some x → w.cell? ⟨blk, off + j, none⟩ = some (.int .i64 x)) ∧ ∀ x ∈ l, -9223372036854775808 ≤ x ∧ x ≤ 9223372036854775807
theorem RdI.nil (w : World) (B : Nat) (A : Option Addr) : RdI w B A [] := ⟨fun h => absurd rfl h, by simp⟩
theorem RdI.kept {w w' : World} {B : Nat} {A : Option Addr} {l : List Int} (h : RdI w B A l) {S : Nat → Prop} (hF : Fr S w w') (hB : B ≤ w.heap.size) (hS : ∀ i, i < B → ¬ S i) : RdI w' B A l := ⟨fun hne => by
  obtain ⟨blk, off, hp, hb, hc⟩ := h.1 hne
  exact ⟨blk, off, hp, hb, fun j x hj => (World.cell?_of_block (w := w) (w' := w') (hF.block blk (by omega) (hS blk hb))).trans (hc j x hj)⟩, h.2⟩
theorem RdI.still {w w' : World} {B : Nat} {A : Option Addr} {l : List Int} (h : RdI w B A l) (hF : Fr (fun _ => False) w w') (hB : B ≤ w.heap.size) : RdI w' B A l := h.kept hF hB (fun _ _ e => e)
theorem RdI.calm {w w' : World} {B : Nat} {A : Option Addr} {l : List Int} (h : RdI w B A l) (hC : Calm w w') : RdI w' B A l := ⟨fun hne => by
  obtain ⟨blk, off, hp, hb, hc⟩ := h.1 hne
  exact ⟨blk, off, hp, hb, fun j x hj => (hC.cell _).trans (hc j x hj)⟩, h.2⟩
theorem RdI.at_ {w : World} {B : Nat} {A : Option Addr} {l : List Int} (h : RdI w B A l) {k : Nat} (hk : k < l.length) :
    ∃ blk off, A = some ⟨blk, off, none⟩ ∧ blk < B ∧ w.cell? ⟨blk, off + k, none⟩ = some (.int .i64 l[k]) ∧ -9223372036854775808 ≤ l[k] ∧ l[k] ≤ 9223372036854775807 := by
  obtain ⟨blk, off, hp, hb, hc⟩ := h.1 (by intro e; subst e; simp at hk)
  exact ⟨blk, off, hp, hb, hc k _ (List.getElem?_eq_getElem hk), h.2 _ (List.getElem_mem hk)⟩

/-- A slice of the call's own that holds these bytes. -/
def Own (w : World) (base : Nat) (v : Value) (l : List UInt8) : Prop := w.ownsRow base 5 1 v l.length (bs l)
theorem Own.kept {w w' : World} {base : Nat} {v : Value} {l : List UInt8} (h : Own w base v l) (hF : Fr (fun _ => False) w w') : Own w' base v l := by
  obtain ⟨h1, h2⟩ := h
  refine ⟨h1, ?_⟩
  rcases h2 with h2 | ⟨g, cap, cur, hv, hg, hh, r⟩
  · exact Or.inl h2
  · exact Or.inr ⟨g, cap, cur, hv, hg, (hF.block g (Array.getElem?_eq_some_iff.1 hh).1 id).trans hh, r⟩
theorem Own.rd {w : World} {base cap : Nat} {A : Option Addr} {l : List UInt8} (h : Own w base (.slice A l.length cap) l) : Rd w w.heap.size A l := fun hne => by
  obtain ⟨_, h2⟩ := h
  rcases h2 with ⟨_, h0⟩ | ⟨g, cap', cur, hv, hg, hh, _, _, _, ht⟩
  · exact absurd (List.eq_nil_of_length_eq_zero h0) hne
  · cases hv
    refine ⟨g, 0, rfl, (Array.getElem?_eq_some_iff.1 hh).1, fun j x hj => ?_⟩
    rw [cellAt hh, Nat.zero_add, ← Array.getElem?_toList]
    have h1 : (cur.toList.take (l.length * 1))[j]? = some (.int .u8 (x.toNat : Int)) := by rw [ht, bs_get, hj]; rfl
    rw [List.getElem?_take] at h1
    split at h1
    · exact h1
    · cases h1
/-- Where an own slice lies, if it holds a byte. -/
theorem Own.at_ {w : World} {base cap : Nat} {A : Option Addr} {l : List UInt8} (h : Own w base (.slice A l.length cap) l) {k : Nat} (hk : k < l.length) :
    ∃ g, A = some ⟨g, 0, none⟩ ∧ base ≤ g ∧ g < w.heap.size ∧ w.cell? ⟨g, k, none⟩ = some (.int .u8 (l[k].toNat : Int)) ∧ w.frozen? ⟨g, k, none⟩ = false ∧
      ∀ c : UInt8, Own (w.setCell ⟨g, k, none⟩ (.int .u8 (c.toNat : Int))) base (.slice A (l.set k c).length cap) (l.set k c) := by
  obtain ⟨h1, h2⟩ := id h
  rcases h2 with ⟨_, h0⟩ | ⟨g, cap', cur, hv, hg, hh, hn, hm, hs, ht⟩
  · omega
  · cases hv
    have hcell := (h.rd.at_ hk)
    obtain ⟨blk, off, e, _, hc⟩ := hcell
    cases e
    rw [Nat.zero_add] at hc
    refine ⟨g, rfl, hg, (Array.getElem?_eq_some_iff.1 hh).1, hc, freeAt hh k, fun c => ⟨by rw [bs_length]; omega, Or.inr ⟨g, cap, cur.setIfInBounds k (.int .u8 (c.toNat : Int)), rfl, hg, ?_, ?_, hm, ?_, ?_⟩⟩⟩
    · exact heap_setCell_same _ _ _ _ _ _ hh
    · rw [List.length_set]; exact hn
    · rw [Array.size_setIfInBounds]; exact hs
    · rw [Array.toList_setIfInBounds, List.length_set, List.take_set, ht, bs_set]

/-- A slice of noughts that make lays. -/
def zb (n : Nat) : Array Value := (bs (List.replicate n 0)).toArray
theorem run_make_bytes (n : Nat) (h : n ≤ 140737488351232) (w : World) :
    (Instr.makeSlice 22 (.int .i64 (n : Int)) (.int .i64 (n : Int))).run Tryd.prog w = .ok (.slice (some ⟨w.heap.size, 0, none⟩) n n) (w.alloc (.cells (zb n) 5)) := by
  obtain ⟨i0, hi, hz0, hz1, hz2⟩ := info_parts infoB
  have hr := run_make (P := Tryd.prog) w 22 5 i0 (.int .u8 0) Tryd.underlying22 hi hz0 .i64 .i64 n n (by omega) (by omega) (by rw [hz2]; omega) (by omega)
  rw [hr, Int.toNat_natCast, hz1, Nat.mul_one]
  have : madeCells (Value.int .u8 0).cells n = zb n := by
    apply Array.toList_inj.1
    unfold zb bs
    rw [List.map_replicate]
    exact toList_madeCells_one _ _
  rw [this]
theorem own_made (w : World) (l : List UInt8) (h : l.length ≤ maxLen) : Own (w.alloc (.cells (bs l).toArray 5)) w.heap.size (.slice (some ⟨w.heap.size, 0, none⟩) l.length l.length) l :=
  ⟨by rw [bs_length, Nat.mul_one], Or.inr ⟨w.heap.size, l.length, (bs l).toArray, rfl, Nat.le_refl _, heap_alloc_new _ _, Nat.le_refl _, h, by simp [bs_length], by rw [Nat.mul_one]; exact List.take_of_length_le (by simp [bs_length])⟩⟩
theorem own_zb (w : World) (n : Nat) (h : n ≤ 140737488351232) : Own (w.alloc (.cells (zb n) 5)) w.heap.size (.slice (some ⟨w.heap.size, 0, none⟩) (List.replicate n (0 : UInt8)).length n) (List.replicate n 0) := by
  have := own_made w (List.replicate n 0) (by rw [List.length_replicate]; unfold maxLen; omega)
  rw [List.length_replicate] at this ⊢
  exact this

/-- A new slice of bytes. -/
def NewB (w : World) (l : List UInt8) (e : Ending) (w' : World) : Prop :=
  ∃ A cap, e = .returned (.slice A l.length cap) ∧ Own w' w.heap.size (.slice A l.length cap) l ∧ Fr (fun _ => False) w w'

theorem NewB.of_own {w w' : World} {l : List UInt8} {v : Value} {n : Nat} {xs : List Value} (hn : n = l.length) (hx : xs = bs l) (hnn : v ≠ .slice none 0 0) (h : w'.ownsRow w.heap.size 5 1 v n xs) (hF : Fr (fun _ => False) w w') : NewB w l (.returned v) w' := by
  subst hn
  subst hx
  obtain ⟨h1, h2⟩ := id h
  rcases h2 with ⟨e, _⟩ | ⟨g, cap, cur, rfl, hg, hh, r⟩
  · exact absurd e hnn
  · exact ⟨_, cap, rfl, h, hF⟩

set_option maxHeartbeats 1000000 in
theorem bytes_any (w : World) (A : Option Addr) (cap : Nat) (l : List UInt8) (hr : Rd w w.heap.size A l) (hA : A = none → cap = 0) (hl : l.length ≤ 140737488351232) :
    Calls Tryd.prog 8 #[.slice A l.length cap] w fun e w' => NewB w l e w' := by
  obtain ⟨i0, hi, hz0, hz1, hz2⟩ := info_parts infoB
  have hO : (w.alloc (.cells #[] 5)).ownsRow w.heap.size 5 1 (.slice (some ⟨w.heap.size, 0, none⟩) 0 0) 0 [] := World.ownsRow_made w #[] 0 (Nat.le_refl _) (Nat.zero_le _) (by simp)
  have hF : Fr (fun _ => False) w (w.alloc (.cells #[] 5)) := (Fr.refl _ w).alloc _
  have HO := Lib.hid hO
  have HF := Lib.hid hF
  have HI := Lib.hid (⟨hi, hz0, hz1, hz2⟩ : _ ∧ _ ∧ _ ∧ _)
  clear hO hF hi hz0 hz1 hz2
  obtain ⟨n, hn⟩ : ∃ n, n = l.length := ⟨_, rfl⟩
  rw [← hn]
  have hn' : n ≤ 140737488351232 := by omega
  have HN := Lib.hid hn
  cases A with
  | none =>
    have h0 : l = [] := by
      apply Decidable.byContradiction
      intro hne
      obtain ⟨_, _, e, _⟩ := hr hne
      cases e
    obtain rfl : cap = 0 := hA rfl
    obtain rfl : n = 0 := by rw [hn, h0]; rfl
    have H0 := Lib.hid h0
    clear hr hA hl hn h0
    go_enter Tryd.func8, Tryd.ntmps8
    go_wp2_with (at_builtin; refine wpList_append_own_none rfl (.tmp 3) (.tmp 4) 22 rfl w.heap.size 5 i0 1 Tryd.underlying22 HI.out.1 _ 0 [] rfl HO.out rfl ?_)
    go_ret
    exact NewB.of_own (HN.out) (by rw [H0.out]; rfl) (by simp) HO.out HF.out
  | some ad =>
    have hr1 := hr.still HF.out (Nat.le_refl _)
    have HS := Lib.hid hr1.src
    clear hr hA hl hn hr1
    go_enter Tryd.func8, Tryd.ntmps8
    go_wp2_with (at_builtin; refine wpList_append_own _ rfl (.tmp 3) (.tmp 4) 22 rfl w.heap.size 5 i0 (.int .u8 0) 1 1 Tryd.underlying22 HI.out.1 HI.out.2.1 HI.out.2.2.1 HI.out.2.2.2 rfl (by omega) _ 0 [] rfl HO.out ad n cap (bs l) rfl ?c1 HS.out (bs_one l) ?c2 ?c3 ?c4 ?c5)
    case c1 => rw [bs_length, ← HN.out]; omega
    case c2 => unfold maxLen; omega
    case c3 => omega
    case c4 => simp
    case c5 =>
      intro v' w1 hown hgrow hnil
      have hfr := HF.out.grown hgrow (fun k hk => Or.inr (by simp [Value.ownBlock] at hk; omega))
      have HW := Lib.hid (⟨hown, hfr, hnil⟩ : _ ∧ _ ∧ _)
      clear hown hgrow hnil hfr
      go_wp2
      go_ret
      exact NewB.of_own HN.out rfl HW.out.2.2 HW.out.1 HW.out.2.1

theorem take_same_succ {l1 l2 : List UInt8} {k : Nat} (h : l1.take k = l2.take k) (h1 : k < l1.length) (h2 : k < l2.length) (e : l1[k] = l2[k]) : l1.take (k + 1) = l2.take (k + 1) := by
  rw [List.take_succ_eq_append_getElem h1, List.take_succ_eq_append_getElem h2, h, e]

set_option maxRecDepth 100000 in
set_option maxHeartbeats 1000000 in
theorem same_core (w : World) (A1 A2 : Option Addr) (B1 B2 c1 c2 : Nat) (l1 l2 : List UInt8) (hr1 : Rd w B1 A1 l1) (hr2 : Rd w B2 A2 l2) (hl : l1.length = l2.length) (hb : l1.length ≤ 140737488351232) :
    Calls Tryd.prog 15 #[.slice A1 l1.length c1, .slice A2 l2.length c2] w fun e w' => e = .returned (.bool (decide (l1 = l2))) ∧ Calm w w' := by
  obtain ⟨n, hn⟩ : ∃ n, n = l1.length := ⟨_, rfl⟩
  rw [← hl, ← hn]
  have hb' : n ≤ 140737488351232 := by omega
  have HR1 := Lib.hid hr1
  have HR2 := Lib.hid hr2
  have HN := Lib.hid hn
  have HL := Lib.hid hl
  clear hr1 hr2 hn hl hb
  go_enter Tryd.func15, Tryd.ntmps15
  go_wp2_with fail
  go_loopw [5] (fun i wr => ∃ k : Nat, k ≤ n ∧ i = .int .i64 k ∧ Hid (l1.take k = l2.take k ∧ Calm w wr)) (fun i _ => n - (intOf i).toNat)
  case atStart => exact ⟨0, Nat.zero_le _, rfl, (show _ ∧ _ from ⟨rfl, Calm.refl _⟩)⟩
  case round =>
    obtain ⟨k, hk, rfl, HC⟩ := hrel
    by_cases hlt : k < n
    · have hk1 : k < l1.length := by have := HN.out; omega
      have hk2 : k < l2.length := by have := HN.out; have := HL.out; omega
      obtain ⟨b1, o1, rfl, _, d1⟩ := (HR1.out.calm HC.out.2).at_ hk1
      obtain ⟨b2, o2, rfl, _, d2⟩ := (HR2.out.calm HC.out.2).at_ hk2
      by_cases he : l1[k] = l2[k]
      · have HE := Lib.hid (take_same_succ HC.out.1 hk1 hk2 he)
        rw [← he] at d2
        have hx := l1[k].toNat_lt
        obtain ⟨x, hxx⟩ : ∃ x : Nat, x = l1[k].toNat := ⟨_, rfl⟩
        rw [← hxx] at d1 d2
        have h0 : (0 : Int) ≤ k := by omega
        have h1 : (k : Int) < n := by omega
        clear he hk1 hk2 hxx hx
        go_wp2_with fail
        go_quiet (fail)
        go_wp2
        go_roundw
        case rel => exact ⟨k + 1, by omega, by go_num, (show _ ∧ _ from ⟨HE.out, HC.out.2.trans ⟨nq, rfl⟩⟩)⟩
        case measure => simp [intOf]; omega
      · have hd : decide (l1 = l2) = false := decide_eq_false (fun e => he (by subst e; rfl))
        have HD := Lib.hid hd
        have hne : ((l1[k].toNat : Int) != (l2[k].toNat : Int)) = true := by
          rw [bne_iff_ne]
          intro e
          exact he (UInt8.toNat_inj.1 (by omega))
        obtain ⟨x, hxx⟩ : ∃ x : Nat, x = l1[k].toNat := ⟨_, rfl⟩
        obtain ⟨y, hyy⟩ : ∃ y : Nat, y = l2[k].toNat := ⟨_, rfl⟩
        rw [← hxx] at d1 hne
        rw [← hyy] at d2 hne
        have h0 : (0 : Int) ≤ k := by omega
        have h1 : (k : Int) < n := by omega
        clear he hk1 hk2 hxx hyy hd
        go_wp2_with fail
        go_quiet (fail)
        go_wp2
        go_ret
        exact ⟨by rw [HD.out]; rfl, HC.out.2.trans ⟨nq, rfl⟩⟩
    · have hkn : k = n := by omega
      subst hkn
      have hd : decide (l1 = l2) = true := decide_eq_true (by
        have h := HC.out.1
        rw [List.take_of_length_le (by have := HN.out; omega), List.take_of_length_le (by have := HN.out; have := HL.out; omega)] at h
        exact h)
      have HD := Lib.hid hd
      clear hd
      go_wp2_with fail
      go_wp2
      go_ret
      exact ⟨by rw [HD.out]; rfl, HC.out.2⟩

set_option maxHeartbeats 400000 in
theorem same_len (w : World) (p1 p2 : Option Addr) (n1 n2 c1 c2 : Nat) (h : n1 ≠ n2) :
    Calls Tryd.prog 15 #[.slice p1 n1 c1, .slice p2 n2 c2] w fun e w' => e = .returned (.bool false) ∧ w = w' := by
  have hne : ((n1 : Int) != (n2 : Int)) = true := by rw [bne_iff_ne]; omega
  clear h
  go_enter Tryd.func15, Tryd.ntmps15
  go_wp2
  go_ret
  exact ⟨rfl, rfl⟩

theorem same_any (w : World) (A1 A2 : Option Addr) (B1 B2 c1 c2 : Nat) (l1 l2 : List UInt8) (hr1 : Rd w B1 A1 l1) (hr2 : Rd w B2 A2 l2) (hb : l1.length ≤ 140737488351232) :
    Calls Tryd.prog 15 #[.slice A1 l1.length c1, .slice A2 l2.length c2] w fun e w' => e = .returned (.bool (decide (l1 = l2))) ∧ Calm w w' := by
  by_cases h : l1.length = l2.length
  · exact same_core w A1 A2 B1 B2 c1 c2 l1 l2 hr1 hr2 h hb
  · refine (same_len w A1 A2 _ _ c1 c2 h).mono ?_
    rintro e w' ⟨rfl, rfl⟩
    exact ⟨by rw [decide_eq_false (fun e => h (by rw [e]))], Calm.refl _⟩

def amongZ (n m : Int) : Int := wrap64 ((IntKind.u64.wrap n).tmod m)
theorem wrap_u64_in (n : Int) : 0 ≤ IntKind.u64.wrap n ∧ IntKind.u64.wrap n < 18446744073709551616 := by
  have h : IntKind.u64.wrap n = n % 18446744073709551616 := by
    unfold IntKind.wrap
    simp only
    have hs : IntKind.u64.signed = false := rfl
    rw [hs]
    rfl
  omega
theorem amongZ_in {n m : Int} (h1 : 1 ≤ m) (h2 : m ≤ 9223372036854775807) : 0 ≤ amongZ n m ∧ amongZ n m < m := by
  unfold amongZ
  have h := wrap_u64_in n
  rw [Int.tmod_eq_emod_of_nonneg h.1]
  have h3 := Int.emod_nonneg (IntKind.u64.wrap n) (show m ≠ 0 by omega)
  have h4 := Int.emod_lt_of_pos (IntKind.u64.wrap n) (show 0 < m by omega)
  rw [IntWalk.wrap64_in _ ⟨by omega, by omega⟩]
  exact ⟨h3, h4⟩

section
variable {H : Type} {enc : TypeId × Value → H} {w : World} {base : Nat} {spare : Nat → Bool} {held : Bool}

theorem addr_of_cell {w : World} {a : Addr} {v : Value} (h : w.cell? (a.add 0) = some v) : a = ⟨a.block, a.off, none⟩ ∧ a.block < w.heap.size := by
  have h0 : a.add 0 = a := if_pos rfl
  rw [h0] at h
  have hs := World.cell?_spot h
  refine ⟨?_, block_lt_of_cell h⟩
  obtain ⟨b, o, s⟩ := a
  simp only at hs
  rw [hs]
theorem cell_add {w : World} {a : Addr} {j : Nat} {v : Value} (ha : a = ⟨a.block, a.off, none⟩) (h : w.cell? (a.add j) = some v) : w.cell? ⟨a.block, a.off + j, none⟩ = some v := by
  rw [ha, add_plain] at h
  exact h

set_option maxRecDepth 100000 in
/-- A slice of bytes that came in. -/
theorem bytes_open {v : Value} {d : DataW H} {ps : List MemPlace} (hs : ∀ b, spare b = true) (hsz : ∀ el sp, d = .slice el sp → (el.length + sp.length) * Tryd.prog.bytesOf 5 ≤ reachBytes) {base2 : Nat} (hok : Value.okWide Tryd.prog w .any base2 22 v) (h : DataW.Trod enc Tryd.prog w base spare held 22 v d ps) :
    ∃ (A : Option Addr) (cap : Nat) (l : List UInt8), v = .slice A l.length cap ∧ Rd w w.heap.size A l ∧ (A = none → cap = 0) ∧ l.length ≤ cap ∧ l.length ≤ 140737488351232 := by
  obtain ⟨a0, len, cap, rfl⟩ := okWide_slice Tryd.underlying22 hok
  obtain ⟨fuel, hf⟩ := h
  have hf' : DataW.trod enc Tryd.prog w base spare held fuel 22 [.slice a0 len cap] = some (d, ps) := hf
  rcases open_ints Tryd.underlying22 Tryd.underlying5 cellsU hf' with ⟨hc, _⟩ | ⟨ad, ln, cp, zs, hc, _, hl, hm, hz, hx, hcell, hwf⟩
  · simp only [List.cons.injEq, Value.slice.injEq, and_true] at hc
    obtain ⟨rfl, rfl, rfl⟩ := hc
    exact ⟨none, 0, [], rfl, Rd.nil _ _ _, fun _ => rfl, Nat.le_refl _, by simp⟩
  · simp only [List.cons.injEq, Value.slice.injEq, and_true] at hc
    obtain ⟨rfl, rfl, rfl⟩ := hc
    rw [if_pos (hs _)] at hz
    have hreach := hsz _ _ (Prod.mk.inj hx).1
    rw [bytesU] at hreach
    simp only [lits, List.length_map, List.length_take, List.length_drop, reachBytes] at hreach
    have hlen : ((zs.take len).map fun z => UInt8.ofNat z.toNat).length = len := by rw [List.length_map, List.length_take]; omega
    refine ⟨some ad, cap, (zs.take len).map fun z => UInt8.ofNat z.toNat, by rw [hlen], fun hne => ?_, (fun e => by cases e), by rw [hlen]; exact hl, by rw [hlen]; omega⟩
    have h0 : 0 < len := by
      rcases Nat.eq_zero_or_pos len with e | e
      · exact absurd (List.eq_nil_of_length_eq_zero (hlen.trans e)) hne
      · exact e
    obtain ⟨e1, e2⟩ := addr_of_cell (hcell 0 (by omega))
    refine ⟨ad.block, ad.off, by rw [← e1], e2, fun j x hj => ?_⟩
    have hj' : j < len := by
      have := (List.getElem?_eq_some_iff.1 hj).1
      omega
    rw [List.getElem?_map, List.getElem?_take_of_lt hj'] at hj
    obtain ⟨z, hz1, rfl⟩ := Option.map_eq_some_iff.1 hj
    have h1 := cell_add e1 (hcell j (by omega))
    rw [List.getD_eq_getElem?_getD, hz1] at h1
    have hw := hwf z (List.mem_of_getElem? hz1)
    have hb : 0 ≤ z ∧ z ≤ 255 := by simpa using bounds_u8 hw
    rw [h1]
    have hn : ((UInt8.ofNat z.toNat).toNat : Int) = z := by
      rw [UInt8.toNat_ofNat_of_lt' (by have := hb.2; show z.toNat < 256; omega)]
      omega
    rw [hn]
    rfl

end

end Go.Proofs.YtoikgnmhnlcbhaaDoor
