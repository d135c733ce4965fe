/-
  Words of 32 bits, and slices of them; the document's right, mixing.
-/
import Derived.Test.YtoikgnmhnlcbhaaDoorDgM
import Derived.Laws.BitsAllLaws
import Derived.Laws.BitsLemmas
import Derived.Deep.LoopGhost
import Derived.LoopTactic
import Derived.StillTailTactics
namespace Go.Proofs.YtoikgnmhnlcbhaaDoor.dg
set_option maxRecDepth 100000
open Go.RowKit Go.Maps
set_option maxRecDepth 100000

def uw (c : W) : Int := (c.toNat : Int)
theorem uw_lo (c : W) : 0 ≤ uw c := by unfold uw; omega
theorem uw_hi (c : W) : uw c ≤ 4294967295 := by unfold uw; have := c.isLt; omega
theorem uw_ofInt (c : W) : BitVec.ofInt 32 (uw c) = c := by
  unfold uw
  rw [BitVec.ofInt_natCast, BitVec.ofNat_toNat, BitVec.setWidth_eq]
theorem wrap32 (n : Int) : IntKind.u32.wrap n = n % 4294967296 := by rw [IntKind.wrap_u32]
theorem uw_wrap (c : W) : IntKind.u32.wrap (uw c) = uw c := by
  rw [wrap32]
  have := uw_lo c
  have := uw_hi c
  omega
theorem uw_xor (a b : W) : bits .xor .u32 (uw a) (uw b) = uw (a ^^^ b) := by
  show IntKind.u32.wrap ((BitVec.ofInt 32 (uw a) ^^^ BitVec.ofInt 32 (uw b)).toNat : Int) = _
  rw [uw_ofInt, uw_ofInt]
  exact uw_wrap _
theorem uw_or (a b : W) : bits .or .u32 (uw a) (uw b) = uw (a ||| b) := by
  show IntKind.u32.wrap ((BitVec.ofInt 32 (uw a) ||| BitVec.ofInt 32 (uw b)).toNat : Int) = _
  rw [uw_ofInt, uw_ofInt]
  exact uw_wrap _
theorem uw_not (a : W) : bits .xor .u32 4294967295 (uw a) = uw (~~~ a) := by
  have h := uw_xor (BitVec.allOnes 32) a
  rw [BitVec.allOnes_xor] at h
  exact h
theorem uw_add (a b : W) : IntKind.u32.wrap (uw a + uw b) = uw (a + b) := by
  rw [wrap32]
  unfold uw
  rw [BitVec.toNat_add]
  omega
theorem uw_ofNat (n : Nat) : uw (BitVec.ofNat 32 n) = ((n % 4294967296 : Nat) : Int) := by
  unfold uw
  rw [BitVec.toNat_ofNat]
theorem uw_shr (a : W) (n : Nat) : uw a / (2 : Int) ^ n = uw (a >>> n) := by
  unfold uw
  rw [BitVec.toNat_ushiftRight, Nat.shiftRight_eq_div_pow, Int.natCast_ediv, Int.natCast_pow]
  rfl
theorem uw_shl (a : W) (n : Nat) : uw a * (2 : Int) ^ n % 4294967296 = uw (a <<< n) := by
  unfold uw
  rw [BitVec.toNat_shiftLeft, Nat.shiftLeft_eq, Int.natCast_emod, Int.natCast_mul, Int.natCast_pow]
  rfl
theorem uw_sum (a b : W) : (uw a + uw b) % 4294967296 = uw (a + b) := by rw [← uw_add, wrap32]

/-- Words as cells. -/
def ws (l : List W) : List Value := l.map fun b => .int .u32 (uw b)
theorem ws_length (l : List W) : (ws l).length = l.length := by unfold ws; rw [List.length_map]
theorem ws_append (a b : List W) : ws (a ++ b) = ws a ++ ws b := by unfold ws; rw [List.map_append]
theorem ws_get (l : List W) (j : Nat) : (ws l)[j]? = l[j]?.map fun b => .int .u32 (uw b) := by unfold ws; rw [List.getElem?_map]
theorem ws_one (l : List W) : ∀ u ∈ ws l, u.oneCell' = true := by
  unfold ws
  intro u hu
  obtain ⟨b, _, rfl⟩ := List.mem_map.1 hu
  rfl
theorem ws_set (l : List W) (k : Nat) (c : W) : (ws l).set k (.int .u32 (uw c)) = ws (l.set k c) := by unfold ws; rw [List.map_set]
/-- A slice of words of the call's own. -/
def OwnW (w : World) (base : Nat) (v : Value) (l : List W) : Prop := w.ownsRow base 41 1 v l.length (ws l)
theorem OwnW.kept {w w' : World} {base : Nat} {v : Value} {l : List W} (h : OwnW w base v l) (hF : Fr (fun _ => False) w w') : OwnW w' base v l := by
  obtain ⟨h1, h2⟩ := h
  refine ⟨h1, ?_⟩
  rcases h2 with h2 | ⟨g, cap, cur, hv, hg, hh, r⟩
  · exact Or.inl h2
  · exact Or.inr ⟨g, cap, cur, hv, hg, (hF.block g (Array.getElem?_eq_some_iff.1 hh).1 id).trans hh, r⟩
/-- A slice at A reads as these words. -/
def RdW (w : World) (B : Nat) (A : Option Addr) (l : List W) : Prop :=
  l ≠ [] → ∃ blk off, A = some ⟨blk, off, none⟩ ∧ blk < B ∧ ∀ j x, l[j]? = some x → w.cell? ⟨blk, off + j, none⟩ = some (.int .u32 (uw x))
theorem RdW.still {w w' : World} {B : Nat} {A : Option Addr} {l : List W} (h : RdW w B A l) (hF : Fr (fun _ => False) w w') (hB : B ≤ w.heap.size) : RdW w' B A l := fun hne => by
  obtain ⟨blk, off, hp, hb, hc⟩ := h hne
  exact ⟨blk, off, hp, hb, fun j x hj => (World.cell?_of_block (w := w) (w' := w') (hF.block blk (by omega) (fun e => e))).trans (hc j x hj)⟩
theorem RdW.at_ {w : World} {B : Nat} {A : Option Addr} {l : List W} (h : RdW w B A l) {k : Nat} (hk : k < l.length) :
    ∃ blk off, A = some ⟨blk, off, none⟩ ∧ blk < B ∧ w.cell? ⟨blk, off + k, none⟩ = some (.int .u32 (uw l[k])) := by
  obtain ⟨blk, off, hp, hb, hc⟩ := h (by intro e; subst e; simp at hk)
  exact ⟨blk, off, hp, hb, hc k _ (List.getElem?_eq_getElem hk)⟩
theorem RdW.src {w : World} {B : Nat} {ad : Addr} {l : List W} (h : RdW w B (some ad) l) : ∀ j u, (ws l)[j]? = some u → w.cell? (ad.add j) = some u := by
  intro j u hu
  rw [ws_get] at hu
  obtain ⟨b, hb, rfl⟩ := Option.map_eq_some_iff.1 hu
  obtain ⟨blk, off, hp, _, hc⟩ := h (by intro e; subst e; simp at hb)
  cases hp
  rw [add_plain]
  exact hc j b hb
/-- .. that holds at least one: where it lies. -/
structure InW (w : World) (base g cap : Nat) (l : List W) : Prop where
  own : OwnW w base (.slice (some ⟨g, 0, none⟩) l.length cap) l
  hg : base ≤ g
  lt : g < w.heap.size
  le : l.length ≤ cap
  cell : ∀ k x, l[k]? = some x → w.cell? ⟨g, k, none⟩ = some (.int .u32 (uw x))
  free : ∀ k, w.frozen? ⟨g, k, none⟩ = false
theorem OwnW.in_ {w : World} {base cap : Nat} {A : Option Addr} {l : List W} (h : OwnW w base (.slice A l.length cap) l) (hl : 0 < l.length) : ∃ g, A = some ⟨g, 0, none⟩ ∧ InW w base g cap l := by
  obtain ⟨h1, h2⟩ := id h
  rcases h2 with ⟨_, h0⟩ | ⟨g, cap', cur, hv, hg, hh, hn, hm, hs, ht⟩
  · omega
  · cases hv
    refine ⟨g, rfl, ⟨h, hg, (Array.getElem?_eq_some_iff.1 hh).1, hn, fun k x hk => ?_, fun k => freeAt hh k⟩⟩
    rw [cellAt hh, ← Array.getElem?_toList]
    have h1 : (cur.toList.take (l.length * 1))[k]? = some (.int .u32 (uw x)) := by rw [ht, ws_get, hk]; rfl
    rw [List.getElem?_take] at h1
    split at h1
    · exact h1
    · cases h1
theorem InW.still {w w' : World} {base g cap : Nat} {l : List W} (h : InW w base g cap l) (hF : Fr (fun _ => False) w w') : InW w' base g cap l := by
  refine ⟨h.own.kept hF, h.hg, Nat.lt_of_lt_of_le h.lt hF.size, h.le, fun k x hk => ?_, fun k => ?_⟩
  · exact (World.cell?_of_block (w := w) (w' := w') (hF.block g h.lt (fun e => e))).trans (h.cell k x hk)
  · have := h.free k
    unfold World.frozen? at this ⊢
    rw [hF.block g h.lt (fun e => e)]
    exact this
theorem InW.set {w : World} {base g cap : Nat} {l : List W} (h : InW w base g cap l) {k : Nat} (hk : k < l.length) (c : W) : InW (w.setCell ⟨g, k, none⟩ (.int .u32 (uw c))) base g cap (l.set k c) := by
  have hl0 : 0 < (l.set k c).length := by rw [List.length_set]; omega
  obtain ⟨h1, h2⟩ := h.own
  rcases h2 with ⟨_, h0⟩ | ⟨g', cap', cur, hv, hg, hh, hn, hm, hs, ht⟩
  · omega
  · cases hv
    have hnew : OwnW (w.setCell ⟨g, k, none⟩ (.int .u32 (uw c))) base (.slice (some ⟨g, 0, none⟩) (l.set k c).length cap) (l.set k c) := by
      refine ⟨by rw [ws_length, Nat.mul_one], Or.inr ⟨g, cap, cur.setIfInBounds k (.int .u32 (uw c)), rfl, hg, heap_setCell_same _ _ _ _ _ _ hh, by rw [List.length_set]; exact hn, hm, by rw [Array.size_setIfInBounds]; exact hs, ?_⟩⟩
      rw [Array.toList_setIfInBounds, List.length_set, List.take_set, ht, ws_set]
    obtain ⟨g2, e, hin⟩ := hnew.in_ hl0
    cases e
    exact hin
theorem at_get {l : List W} {k : Nat} (hk : k < l.length) : l[k]? = some (at_ l k) := by
  unfold at_
  rw [List.getElem?_eq_getElem hk, List.getD_eq_getElem?_getD, List.getElem?_eq_getElem hk]
  rfl

/-! ### the document's right -/
set_option maxHeartbeats 1000000 in
theorem rright (w : World) (x : W) (n : Nat) (h1 : 1 ≤ n) (h2 : n ≤ 31) : Calls Tryd.prog 39 #[.int .u32 (uw x), .int .u64 (n : Int)] w fun e w' => e = .returned (.int .u32 (uw (rt x n))) ∧ w = w' := by
  have g1 := uw_shr x n
  have g2 := uw_shl x (32 - n)
  have g3 := uw_or (x >>> n) (x <<< (32 - n))
  have hlo := uw_lo x
  have hhi := uw_hi x
  unfold rt
  go_enter Tryd.func39, Tryd.ntmps39
  go_wp2_with fail
  go_ret
  exact ⟨by first | rfl | (show Ending.returned (.int .u32 (bits .or .u32 (uw x / 2 ^ n) (uw x * 2 ^ (32 - n) % 4294967296))) = _; rw [g1, g2, g3]), rfl⟩

/-! ### the document's mixing -/
set_option maxHeartbeats 16000000 in
theorem rmixing (w0 w : World) (g cap : Nat) (v : List W) (hv : v.length = 16) (hI : InW w w0.heap.size g cap v) (hF : Fr (fun _ => False) w0 w) (a b c d : Nat) (ha : a < 16) (hb : b < 16) (hc : c < 16) (hd : d < 16) (x y : W) :
    Calls Tryd.prog 33 #[.slice (some ⟨g, 0, none⟩) 16 cap, .int .i64 (a : Int), .int .i64 (b : Int), .int .i64 (c : Int), .int .i64 (d : Int), .int .u32 (uw x), .int .u32 (uw y)] w fun e w' => e = .returned (.tuple #[]) ∧ InW w' w0.heap.size g cap (mixV v a b c d x y) ∧ Fr (fun _ => False) w0 w' := by
  have HI0 := Lib.hid (⟨hI, hF, hv⟩ : InW w w0.heap.size g cap v ∧ Fr (fun _ => False) w0 w ∧ v.length = 16)
  obtain ⟨v0, hv0⟩ : ∃ u, u = v := ⟨_, rfl⟩
  obtain ⟨v1, h1⟩ : ∃ u, u = mx1 v0 a b x := ⟨_, rfl⟩
  obtain ⟨v2, h2⟩ : ∃ u, u = mx2 v1 d a 16 := ⟨_, rfl⟩
  obtain ⟨v3, h3⟩ : ∃ u, u = mx3 v2 c d := ⟨_, rfl⟩
  obtain ⟨v4, h4⟩ : ∃ u, u = mx2 v3 b c 12 := ⟨_, rfl⟩
  obtain ⟨v5, h5⟩ : ∃ u, u = mx1 v4 a b y := ⟨_, rfl⟩
  obtain ⟨v6, h6⟩ : ∃ u, u = mx2 v5 d a 8 := ⟨_, rfl⟩
  obtain ⟨v7, h7⟩ : ∃ u, u = mx3 v6 c d := ⟨_, rfl⟩
  obtain ⟨v8, h8⟩ : ∃ u, u = mx2 v7 b c 7 := ⟨_, rfl⟩
  have hmix : mixV v a b c d x y = v8 := by rw [h8, h7, h6, h5, h4, h3, h2, h1, hv0]; rfl
  have H1 := Lib.hid h1
  have H2 := Lib.hid h2
  have H3 := Lib.hid h3
  have H4 := Lib.hid h4
  have H5 := Lib.hid h5
  have H6 := Lib.hid h6
  have H7 := Lib.hid h7
  have H8 := Lib.hid h8
  rw [← hv0] at HI0
  rw [hmix]
  clear hI hF hv hv0 h1 h2 h3 h4 h5 h6 h7 h8 hmix
  have i1 : (a : Int) < 16 := by omega
  have i2 : (b : Int) < 16 := by omega
  have i3 : (c : Int) < 16 := by omega
  have i4 : (d : Int) < 16 := by omega
  go_enter Tryd.func33, Tryd.ntmps33
  go_wp2_with fail
  have c1 := HI0.out.1.cell a _ (at_get (by have := HI0.out.2.2; omega))
  have c2 := HI0.out.1.cell b _ (at_get (by have := HI0.out.2.2; omega))
  have f1 := HI0.out.1.free a
  have s1 := uw_sum (at_ v0 a) (at_ v0 b)
  have s2 := uw_sum (at_ v0 a + at_ v0 b) x
  go_region
  clear c1 c2 f1 s1 s2
  obtain ⟨x1, hx⟩ : ∃ u, u = (w.setCell ⟨g, a, none⟩ (.int .u32 (uw (at_ v0 a + at_ v0 b + x)))).drew := ⟨_, rfl⟩
  have HI1 := Lib.hid (show InW x1 w0.heap.size g cap v1 ∧ Fr (fun _ => False) w0 x1 ∧ v1.length = 16 from by
    obtain ⟨k1, k2, k3⟩ := HI0.out
    rw [hx, H1.out]
    exact ⟨(k1.set (k := a) (by omega) _).still ((Fr.refl _ _).drew), (k2.setCell (p := ⟨g, a, none⟩) (Or.inr k1.hg) _).drew, (List.length_set).trans k3⟩)
  rw [← hx]
  clear hx HI0 H1
  go_wp2_with fail
  have c1 := HI1.out.1.cell d _ (at_get (by have := HI1.out.2.2; omega))
  have c2 := HI1.out.1.cell a _ (at_get (by have := HI1.out.2.2; omega))
  have f1 := HI1.out.1.free d
  have s1 := uw_xor (at_ v1 d) (at_ v1 a)
  have HR := Lib.hid (rright x1.drew (at_ v1 d ^^^ at_ v1 a) 16 (by decide) (by decide))
  have HR := Lib.hid (show Calls Tryd.prog 39 #[.int .u32 (uw (at_ v1 d ^^^ at_ v1 a)), .int .u64 16] x1.drew fun e w' => e = .returned (.int .u32 (uw (rt (at_ v1 d ^^^ at_ v1 a) 16))) ∧ w' = x1.drew from HR.out.mono fun _ _ ⟨a, c⟩ => ⟨a, c.symm⟩)
  have d1 : x1.drew.cell? ⟨g, d, none⟩ = some (.int .u32 (uw (at_ v1 d))) := c1
  have d2 : x1.drew.cell? ⟨g, a, none⟩ = some (.int .u32 (uw (at_ v1 a))) := c2
  have e1 : x1.drew.frozen? ⟨g, d, none⟩ = false := f1
  refine wp_region_still_tail 13 (by kernel_rfl) (by kernel_rfl) ?_
  simp only [List.take_succ_cons, List.take_zero, List.drop_succ_cons, List.drop_zero]
  repeat still_step
  still_call HR.out
  repeat still_step
  refine wpStill_nil ?_
  change wpList _ _ _ _ _ x1.drew
  go_wp2_with fail
  clear c1 c2 f1 s1 HR d1 d2 e1
  obtain ⟨x2, hx⟩ : ∃ u, u = (x1.setCell ⟨g, d, none⟩ (.int .u32 (uw (rt (at_ v1 d ^^^ at_ v1 a) 16)))).drew := ⟨_, rfl⟩
  have HI2 := Lib.hid (show InW x2 w0.heap.size g cap v2 ∧ Fr (fun _ => False) w0 x2 ∧ v2.length = 16 from by
    obtain ⟨k1, k2, k3⟩ := HI1.out
    rw [hx, H2.out]
    exact ⟨(k1.set (k := d) (by omega) _).still ((Fr.refl _ _).drew), (k2.setCell (p := ⟨g, d, none⟩) (Or.inr k1.hg) _).drew, (List.length_set).trans k3⟩)
  rw [← hx]
  clear hx HI1 H2
  have c1 := HI2.out.1.cell c _ (at_get (by have := HI2.out.2.2; omega))
  have c2 := HI2.out.1.cell d _ (at_get (by have := HI2.out.2.2; omega))
  have f1 := HI2.out.1.free c
  have s1 := uw_sum (at_ v2 c) (at_ v2 d)
  go_region
  clear c1 c2 f1 s1
  obtain ⟨x3, hx⟩ : ∃ u, u = (x2.setCell ⟨g, c, none⟩ (.int .u32 (uw (at_ v2 c + at_ v2 d)))).drew := ⟨_, rfl⟩
  have HI3 := Lib.hid (show InW x3 w0.heap.size g cap v3 ∧ Fr (fun _ => False) w0 x3 ∧ v3.length = 16 from by
    obtain ⟨k1, k2, k3⟩ := HI2.out
    rw [hx, H3.out]
    exact ⟨(k1.set (k := c) (by omega) _).still ((Fr.refl _ _).drew), (k2.setCell (p := ⟨g, c, none⟩) (Or.inr k1.hg) _).drew, (List.length_set).trans k3⟩)
  rw [← hx]
  clear hx HI2 H3
  go_wp2_with fail
  have c1 := HI3.out.1.cell b _ (at_get (by have := HI3.out.2.2; omega))
  have c2 := HI3.out.1.cell c _ (at_get (by have := HI3.out.2.2; omega))
  have f1 := HI3.out.1.free b
  have s1 := uw_xor (at_ v3 b) (at_ v3 c)
  have HR := Lib.hid (rright x3.drew (at_ v3 b ^^^ at_ v3 c) 12 (by decide) (by decide))
  have HR := Lib.hid (show Calls Tryd.prog 39 #[.int .u32 (uw (at_ v3 b ^^^ at_ v3 c)), .int .u64 12] x3.drew fun e w' => e = .returned (.int .u32 (uw (rt (at_ v3 b ^^^ at_ v3 c) 12))) ∧ w' = x3.drew from HR.out.mono fun _ _ ⟨a, c⟩ => ⟨a, c.symm⟩)
  have d1 : x3.drew.cell? ⟨g, b, none⟩ = some (.int .u32 (uw (at_ v3 b))) := c1
  have d2 : x3.drew.cell? ⟨g, c, none⟩ = some (.int .u32 (uw (at_ v3 c))) := c2
  have e1 : x3.drew.frozen? ⟨g, b, none⟩ = false := f1
  refine wp_region_still_tail 13 (by kernel_rfl) (by kernel_rfl) ?_
  simp only [List.take_succ_cons, List.take_zero, List.drop_succ_cons, List.drop_zero]
  repeat still_step
  still_call HR.out
  repeat still_step
  refine wpStill_nil ?_
  change wpList _ _ _ _ _ x3.drew
  go_wp2_with fail
  clear c1 c2 f1 s1 HR d1 d2 e1
  obtain ⟨x4, hx⟩ : ∃ u, u = (x3.setCell ⟨g, b, none⟩ (.int .u32 (uw (rt (at_ v3 b ^^^ at_ v3 c) 12)))).drew := ⟨_, rfl⟩
  have HI4 := Lib.hid (show InW x4 w0.heap.size g cap v4 ∧ Fr (fun _ => False) w0 x4 ∧ v4.length = 16 from by
    obtain ⟨k1, k2, k3⟩ := HI3.out
    rw [hx, H4.out]
    exact ⟨(k1.set (k := b) (by omega) _).still ((Fr.refl _ _).drew), (k2.setCell (p := ⟨g, b, none⟩) (Or.inr k1.hg) _).drew, (List.length_set).trans k3⟩)
  rw [← hx]
  clear hx HI3 H4
  have c1 := HI4.out.1.cell a _ (at_get (by have := HI4.out.2.2; omega))
  have c2 := HI4.out.1.cell b _ (at_get (by have := HI4.out.2.2; omega))
  have f1 := HI4.out.1.free a
  have s1 := uw_sum (at_ v4 a) (at_ v4 b)
  have s2 := uw_sum (at_ v4 a + at_ v4 b) y
  go_region
  clear c1 c2 f1 s1 s2
  obtain ⟨x5, hx⟩ : ∃ u, u = (x4.setCell ⟨g, a, none⟩ (.int .u32 (uw (at_ v4 a + at_ v4 b + y)))).drew := ⟨_, rfl⟩
  have HI5 := Lib.hid (show InW x5 w0.heap.size g cap v5 ∧ Fr (fun _ => False) w0 x5 ∧ v5.length = 16 from by
    obtain ⟨k1, k2, k3⟩ := HI4.out
    rw [hx, H5.out]
    exact ⟨(k1.set (k := a) (by omega) _).still ((Fr.refl _ _).drew), (k2.setCell (p := ⟨g, a, none⟩) (Or.inr k1.hg) _).drew, (List.length_set).trans k3⟩)
  rw [← hx]
  clear hx HI4 H5
  go_wp2_with fail
  have c1 := HI5.out.1.cell d _ (at_get (by have := HI5.out.2.2; omega))
  have c2 := HI5.out.1.cell a _ (at_get (by have := HI5.out.2.2; omega))
  have f1 := HI5.out.1.free d
  have s1 := uw_xor (at_ v5 d) (at_ v5 a)
  have HR := Lib.hid (rright x5.drew (at_ v5 d ^^^ at_ v5 a) 8 (by decide) (by decide))
  have HR := Lib.hid (show Calls Tryd.prog 39 #[.int .u32 (uw (at_ v5 d ^^^ at_ v5 a)), .int .u64 8] x5.drew fun e w' => e = .returned (.int .u32 (uw (rt (at_ v5 d ^^^ at_ v5 a) 8))) ∧ w' = x5.drew from HR.out.mono fun _ _ ⟨a, c⟩ => ⟨a, c.symm⟩)
  have d1 : x5.drew.cell? ⟨g, d, none⟩ = some (.int .u32 (uw (at_ v5 d))) := c1
  have d2 : x5.drew.cell? ⟨g, a, none⟩ = some (.int .u32 (uw (at_ v5 a))) := c2
  have e1 : x5.drew.frozen? ⟨g, d, none⟩ = false := f1
  refine wp_region_still_tail 13 (by kernel_rfl) (by kernel_rfl) ?_
  simp only [List.take_succ_cons, List.take_zero, List.drop_succ_cons, List.drop_zero]
  repeat still_step
  still_call HR.out
  repeat still_step
  refine wpStill_nil ?_
  change wpList _ _ _ _ _ x5.drew
  go_wp2_with fail
  clear c1 c2 f1 s1 HR d1 d2 e1
  obtain ⟨x6, hx⟩ : ∃ u, u = (x5.setCell ⟨g, d, none⟩ (.int .u32 (uw (rt (at_ v5 d ^^^ at_ v5 a) 8)))).drew := ⟨_, rfl⟩
  have HI6 := Lib.hid (show InW x6 w0.heap.size g cap v6 ∧ Fr (fun _ => False) w0 x6 ∧ v6.length = 16 from by
    obtain ⟨k1, k2, k3⟩ := HI5.out
    rw [hx, H6.out]
    exact ⟨(k1.set (k := d) (by omega) _).still ((Fr.refl _ _).drew), (k2.setCell (p := ⟨g, d, none⟩) (Or.inr k1.hg) _).drew, (List.length_set).trans k3⟩)
  rw [← hx]
  clear hx HI5 H6
  have c1 := HI6.out.1.cell c _ (at_get (by have := HI6.out.2.2; omega))
  have c2 := HI6.out.1.cell d _ (at_get (by have := HI6.out.2.2; omega))
  have f1 := HI6.out.1.free c
  have s1 := uw_sum (at_ v6 c) (at_ v6 d)
  go_region
  clear c1 c2 f1 s1
  obtain ⟨x7, hx⟩ : ∃ u, u = (x6.setCell ⟨g, c, none⟩ (.int .u32 (uw (at_ v6 c + at_ v6 d)))).drew := ⟨_, rfl⟩
  have HI7 := Lib.hid (show InW x7 w0.heap.size g cap v7 ∧ Fr (fun _ => False) w0 x7 ∧ v7.length = 16 from by
    obtain ⟨k1, k2, k3⟩ := HI6.out
    rw [hx, H7.out]
    exact ⟨(k1.set (k := c) (by omega) _).still ((Fr.refl _ _).drew), (k2.setCell (p := ⟨g, c, none⟩) (Or.inr k1.hg) _).drew, (List.length_set).trans k3⟩)
  rw [← hx]
  clear hx HI6 H7
  go_wp2_with fail
  have c1 := HI7.out.1.cell b _ (at_get (by have := HI7.out.2.2; omega))
  have c2 := HI7.out.1.cell c _ (at_get (by have := HI7.out.2.2; omega))
  have f1 := HI7.out.1.free b
  have s1 := uw_xor (at_ v7 b) (at_ v7 c)
  have HR := Lib.hid (rright x7.drew (at_ v7 b ^^^ at_ v7 c) 7 (by decide) (by decide))
  have HR := Lib.hid (show Calls Tryd.prog 39 #[.int .u32 (uw (at_ v7 b ^^^ at_ v7 c)), .int .u64 7] x7.drew fun e w' => e = .returned (.int .u32 (uw (rt (at_ v7 b ^^^ at_ v7 c) 7))) ∧ w' = x7.drew from HR.out.mono fun _ _ ⟨a, c⟩ => ⟨a, c.symm⟩)
  have d1 : x7.drew.cell? ⟨g, b, none⟩ = some (.int .u32 (uw (at_ v7 b))) := c1
  have d2 : x7.drew.cell? ⟨g, c, none⟩ = some (.int .u32 (uw (at_ v7 c))) := c2
  have e1 : x7.drew.frozen? ⟨g, b, none⟩ = false := f1
  refine wp_region_still_tail 13 (by kernel_rfl) (by kernel_rfl) ?_
  simp only [List.take_succ_cons, List.take_zero, List.drop_succ_cons, List.drop_zero]
  repeat still_step
  still_call HR.out
  repeat still_step
  refine wpStill_nil ?_
  change wpList _ _ _ _ _ x7.drew
  go_wp2_with fail
  clear c1 c2 f1 s1 HR d1 d2 e1
  obtain ⟨x8, hx⟩ : ∃ u, u = (x7.setCell ⟨g, b, none⟩ (.int .u32 (uw (rt (at_ v7 b ^^^ at_ v7 c) 7)))).drew := ⟨_, rfl⟩
  have HI8 := Lib.hid (show InW x8 w0.heap.size g cap v8 ∧ Fr (fun _ => False) w0 x8 ∧ v8.length = 16 from by
    obtain ⟨k1, k2, k3⟩ := HI7.out
    rw [hx, H8.out]
    exact ⟨(k1.set (k := b) (by omega) _).still ((Fr.refl _ _).drew), (k2.setCell (p := ⟨g, b, none⟩) (Or.inr k1.hg) _).drew, (List.length_set).trans k3⟩)
  rw [← hx]
  clear hx HI7 H8
  exact (show _ ∧ _ from ⟨rfl, .tuple #[], results_none rfl _ _ _, rfl, HI8.out.1, HI8.out.2.1⟩)
end Go.Proofs.YtoikgnmhnlcbhaaDoor.dg
