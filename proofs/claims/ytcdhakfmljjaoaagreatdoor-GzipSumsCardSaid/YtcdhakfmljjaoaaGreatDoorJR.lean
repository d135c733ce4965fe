/-
  Texts that belong together, joined: GeI GeJ GeK GeL.
-/
import Derived.Test.YtcdhakfmljjaoaaGreatDoorJO
import Derived.Test.YtcdhakfmljjaoaaGreatDoorBitsP
import Derived.Maps.AppendAt
import Derived.Lib.AppendZerosOnto
import Derived.Lib.AppendStr
import Derived.Lib.SlBytesConst

/-
  The program's header that is being written: its cells; flag, number, the parts.
-/





namespace Go.Proofs.YtcdhakfmljjaoaaGreatDoor.gz
set_option maxRecDepth 100000
open Go.RowKit Go.Maps Go.Proofs.YtcdhakfmljjaoaaGreatDoor.fl Go.Proofs.YtcdhakfmljjaoaaGreatDoor.cd Go.Proofs.YtcdhakfmljjaoaaGreatDoor.ft
set_option maxRecDepth 100000

/-- Bytes from an address on. -/
def SrcA (w : World) (ad : Addr) (L : By) : Prop := (∀ j u, (bs L)[j]? = some u → w.cell? (ad.add j) = some u) ∧ ad.block < w.heap.size
theorem SrcA.keep {w w' : World} {ad : Addr} {L : By} {S : Nat → Prop} (h : SrcA w ad L) (hF : Fr S w w') (hS : ¬ S ad.block) : SrcA w' ad L := ⟨fun j u hu => by
  have hb : (ad.add j).block = ad.block := by unfold Addr.add; split <;> rfl
  exact (World.cell?_of_block (w := w) (w' := w') (by rw [hb]; exact hF.block _ h.2 hS)).trans (h.1 j u hu), Nat.lt_of_lt_of_le h.2 hF.size⟩
theorem SrcA.still {w w' : World} {ad : Addr} {L : By} (h : SrcA w ad L) (hF : Fr (fun _ => False) w w') : SrcA w' ad L := h.keep hF id
section
variable {w w0 w' : World} {g n c : Nat} {L : By}
theorem run_apB (hO : Out w0 w g n c L) (ad : Addr) (m cc : Nat) (L2 : By) (hm : m = L2.length) (hs : SrcA w ad L2) (hb : n + m ≤ 100000000) (ty : TypeId) :
    ∃ g' c' w', (Builtin.append_ #[22, 22] ty #[.slice (some ⟨g, 0, none⟩) n c, .slice (some ad) m cc]).run Tryz.prog w = .ok (.slice (some ⟨g', 0, none⟩) (n + m) c') w' ∧ Out w0 w' g' (n + m) c' (L ++ L2) ∧ Fr (fun i => i = g) w w' := by
  obtain ⟨i0, hi, hz0, hz1, hz2⟩ := info_parts infoB
  have hown := hO.own
  unfold Own at hown
  rw [← hO.len] at hown
  obtain ⟨v', w', hr, h1, h2, h3⟩ := run_append_own w w0.heap.size 22 ty 5 i0 (.int .u8 0) 1 1 Tryz.underlying22 hi hz0 hz1 hz2 rfl (by omega) _ n (bs L) hown ad m cc (bs L2) (by rw [bs_length, hm, Nat.mul_one]) hs.1 (bs_one L2) (by unfold maxLen; omega) (by omega) hO.fr.size
  obtain ⟨g', c', rfl, hO'⟩ := out_of (L := L ++ L2) (by rw [List.length_append, ← hm, ← hO.len]) (by rw [bs_append]) (fun e => by cases (h3.1 e).1) h1 (hO.fr.grown h2 (fun q e => out_ge hown e))
  exact ⟨g', c', w', hr, hO', (Fr.refl _ w).grown h2 (fun k e => by cases e; exact Or.inl rfl)⟩
theorem run_apS (hO : Out w0 w g n c L) (t : ByteArray) (hb : n + t.size ≤ 100000000) (ty : TypeId) :
    ∃ g' c' w', (Builtin.append_ #[22, 9] ty #[.slice (some ⟨g, 0, none⟩) n c, .string t]).run Tryz.prog w = .ok (.slice (some ⟨g', 0, none⟩) (n + t.size) c') w' ∧ Out w0 w' g' (n + t.size) c' (L ++ t.data.toList) ∧ Fr (fun i => i = g) w w' := by
  obtain ⟨i0, hi, hz0, hz1, hz2⟩ := info_parts infoB
  have hown := hO.own
  unfold Own at hown
  rw [← hO.len] at hown
  obtain ⟨v', w', hr, h1, h2, h3⟩ := Lib.run_append_own_string (P := Tryz.prog) w w0.heap.size 22 9 ty 5 i0 Tryz.underlying22 Tryz.underlying9 hi hz0 hz1 hz2 _ n (bs L) hown t (by unfold maxLen; omega) (by omega) hO.fr.size
  obtain ⟨g', c', rfl, hO'⟩ := out_of (L := L ++ t.data.toList) (by rw [List.length_append, ← hO.len, Array.length_toList]; rfl) (by rw [bs_append]; rfl) (fun e => by cases (h3.1 e).1) h1 (hO.fr.grown h2 (fun q e => out_ge hown e))
  exact ⟨g', c', w', hr, hO', (Fr.refl _ w).grown h2 (fun k e => by cases e; exact Or.inl rfl)⟩

/-- The header h, that holds the bytes of block g1; bytes L of the call's own in block g. -/
structure HB (w0 w : World) (h g n c g1 n1 c1 : Nat) (L : By) : Prop where
  blk : w.heap[h]? = some (.cells #[.slice (some ⟨g1, 0, none⟩) n1 c1] 58 (0, 0))
  out : Out w0 w g n c L
  new : w0.heap.size ≤ h
abbrev HW (w0 w : World) (h g n c : Nat) (L : By) : Prop := HB w0 w h g n c g n c L
variable {h g1 n1 c1 : Nat}
theorem HB.ne (k : HB w0 w h g n c g1 n1 c1 L) : h ≠ g := by
  intro e
  rcases k.out.own.2 with ⟨e2, _⟩ | ⟨q, cap, cur, e2, _, hh, _⟩
  · cases e2
  · cases e2
    rw [← e, k.blk] at hh
    cases hh
theorem HB.c0 (k : HB w0 w h g n c g1 n1 c1 L) : w.cell? ⟨h, 0, none⟩ = some (.slice (some ⟨g1, 0, none⟩) n1 c1) := (cellAt k.blk 0).trans rfl
theorem HB.f0 (k : HB w0 w h g n c g1 n1 c1 L) : w.frozen? ⟨h, 0, none⟩ = false := freeAt k.blk 0
theorem HB.still (k : HB w0 w h g n c g1 n1 c1 L) (hF : Fr (fun _ => False) w w') : HB w0 w' h g n c g1 n1 c1 L := ⟨(hF.block h (lt_of_block k.blk) id).trans k.blk, k.out.still hF, k.new⟩
/-- The bytes have grown. -/
theorem HB.grow (k : HB w0 w h g n c g1 n1 c1 L) {g' n' c' : Nat} {L' : By} (hO : Out w0 w' g' n' c' L') (hF : Fr (fun i => i = g) w w') : HB w0 w' h g' n' c' g1 n1 c1 L' := ⟨(hF.block h (lt_of_block k.blk) k.ne).trans k.blk, hO, k.new⟩
/-- .. and are kept. -/
theorem HB.store (k : HB w0 w h g n c g1 n1 c1 L) : HW w0 (w.setCell ⟨h, 0, none⟩ (.slice (some ⟨g, 0, none⟩) n c)) h g n c L := by
  have hF : Fr (fun i => i = h) w (w.setCell ⟨h, 0, none⟩ (.slice (some ⟨g, 0, none⟩) n c)) := (Fr.refl (fun i => i = h) w).setCell (p := ⟨h, 0, none⟩) (Or.inl rfl) _
  refine ⟨by rw [heap_setCell_same _ _ _ _ _ _ k.blk]; rfl, ⟨?_, k.out.len, k.out.fr.setCell (p := ⟨h, 0, none⟩) (Or.inr k.new) _⟩, k.new⟩
  exact own_keep k.out.own (fun q hq => hF.block q (by
    rcases k.out.own.2 with ⟨e2, _⟩ | ⟨q2, cap, cur, e2, _, hh, _⟩
    · cases e2
    · cases e2; cases hq; exact lt_of_block hh) (fun e => k.ne (by cases hq; exact e.symm)))
end

/-! ### numbers in bytes -/
theorem goes_in {N k : Nat} (h : N < 256 ^ k) : goesB (N : Int) k = true := (goesB_iff _ _).2 ⟨by omega, by omega⟩
set_option maxHeartbeats 2000000 in
theorem pnum (w : World) (N k : Nat) (h1 : 1 ≤ k) (h4 : k ≤ 4) (hN : N < 256 ^ k) : Calls Tryz.prog 39 #[.int .i64 (N : Int), .int .i64 (k : Int)] w fun e w' => ∃ q c, e = .returned (.slice (some ⟨q, 0, none⟩) k c) ∧ Hid (SrcA w' ⟨q, 0, none⟩ (numL N k) ∧ w.heap.size ≤ q) ∧ Hid (Fr (fun _ => False) w w') := by
  have hmk := run_make_bytes k (by omega) w
  have hown := own_zb w k (by omega)
  have hF0 := (Fr.refl (fun _ => False) w).alloc (.cells (zb k) 5)
  have HP := Lib.hid (put_ok _ (some ⟨w.heap.size, 0, none⟩) k k (w.alloc (.cells (zb k) 5)).heap.size 0 k N (List.replicate k 0) hown.rd List.length_replicate (Nat.le_refl _) (fun e => by cases e) (by omega) h1 h4 (by omega) (goes_in hN))
  rw [putL_numL _ _ _ (by rw [List.length_replicate]; omega), List.drop_of_length_le (by rw [List.length_replicate]; omega), List.append_nil] at HP
  have HF0 := Lib.hid hF0
  clear hown hF0
  go_enter Tryz.func39, Tryz.ntmps39
  go_wp2_with fail
  refine HP.out.mono ?_
  rintro e w1 ⟨A, cap, rfl, ho, hA, hF⟩
  have hk0 : 0 < (numL N k).length := by rw [numL_len]; omega
  obtain ⟨q, rfl, hq, -⟩ := ho.at_ hk0
  have HS := Lib.hid (show SrcA w1 ⟨q, 0, none⟩ (numL N k) ∧ w.heap.size ≤ q from ⟨⟨ho.rd.src, by
    rcases ho.2 with ⟨e2, _⟩ | ⟨q2, c2, cur, e2, _, hh, _⟩
    · cases e2
    · cases e2; exact lt_of_block hh⟩, by have := HF0.out.size; simp at hq ⊢; omega⟩)
  have HF := Lib.hid (HF0.out.trans hF (fun _ _ e => e))
  rw [numL_len]
  clear ho hA hF hk0 hq HP
  go_wp2_with fail
  go_ret
  exact ⟨q, cap, rfl, HS, HF⟩
end Go.Proofs.YtcdhakfmljjaoaaGreatDoor.gz

/-
  The program's header that is being written: a new one, flag, number.
-/
namespace Go.Proofs.YtcdhakfmljjaoaaGreatDoor.gz
set_option maxRecDepth 100000
open Go.RowKit Go.Maps Go.Proofs.YtcdhakfmljjaoaaGreatDoor.fl Go.Proofs.YtcdhakfmljjaoaaGreatDoor.cd Go.Proofs.YtcdhakfmljjaoaaGreatDoor.ft
set_option maxRecDepth 100000

section
variable {w w0 w' : World} {g n c : Nat} {L : By}
theorem step_apB {ops : Array Oper} {o : Oper} {a : Act} {K : Act → World → Prop} {Q : Exit → Act → World → Prop} {E : Prop} (hgd : o.guard = none) (s x : Operand)
    (ho : o.op = .call { callee := .builtin .append, args := #[s, x], argTypes := #[22, 22] }) (hs : a.eval s = .slice (some ⟨g, 0, none⟩) n c) (hO : Out w0 w g n c L)
    (ad : Addr) (m cc : Nat) (L2 : By) (hm : m = L2.length) (hx : a.eval x = .slice (some ad) m cc) (hsrc : SrcA w ad L2) (hb : n + m ≤ 100000000)
    (h : ∀ g' n' c' w', n' = n + m → Out w0 w' g' n' c' (L ++ L2) → Fr (fun i => i = g) w w' → K (a.put o.dst (.slice (some ⟨g', 0, none⟩) n' c')) w') : if Region.wanted o (yielded ops a.tmps) = true then Oper.wp Tryz.prog o a w K Q else E := by
  have hw : Region.wanted o (yielded ops a.tmps) = true := by simp [Region.wanted, hgd]
  rw [if_pos hw]
  obtain ⟨g', c', w', hr, h2, h3⟩ := run_apB hO ad m cc L2 hm hsrc hb o.type
  unfold Oper.wp execOp
  simp only [ho, resolve, invoke, builtin, Sem.run_bind, Sem.run_pure, Result.andThen_ok, List.map_toArray, List.map_cons, List.map_nil, hs, hx, hr]
  exact h g' (n + m) c' w' rfl h2 h3
theorem wpl_apB {ops : Array Oper} {rest : List Oper} {o : Oper} {a : Act} {Q : Exit → Act → World → Prop} (hgd : o.guard = none) (s x : Operand)
    (ho : o.op = .call { callee := .builtin .append, args := #[s, x], argTypes := #[22, 22] }) (hs : a.eval s = .slice (some ⟨g, 0, none⟩) n c) (hO : Out w0 w g n c L)
    (ad : Addr) (m cc : Nat) (L2 : By) (hm : m = L2.length) (hx : a.eval x = .slice (some ad) m cc) (hsrc : SrcA w ad L2) (hb : n + m ≤ 100000000)
    (h : ∀ g' n' c' w', n' = n + m → Out w0 w' g' n' c' (L ++ L2) → Fr (fun i => i = g) w w' → wpList Tryz.prog ops Q rest (a.put o.dst (.slice (some ⟨g', 0, none⟩) n' c')) w') : wpList Tryz.prog ops Q (o :: rest) a w := by
  obtain ⟨g', c', w', hr, h2, h3⟩ := run_apB hO ad m cc L2 hm hsrc hb o.type
  exact Lib.wpList_append_run w hgd s x _ _ ho _ _ hs hx _ _ hr (h g' (n + m) c' w' rfl h2 h3)
theorem wpl_apS {ops : Array Oper} {rest : List Oper} {o : Oper} {a : Act} {Q : Exit → Act → World → Prop} (hgd : o.guard = none) (s x : Operand)
    (ho : o.op = .call { callee := .builtin .append, args := #[s, x], argTypes := #[22, 9] }) (hs : a.eval s = .slice (some ⟨g, 0, none⟩) n c) (hO : Out w0 w g n c L)
    (t : ByteArray) (hx : a.eval x = .string t) (hb : n + t.size ≤ 100000000)
    (h : ∀ g' n' c' w', n' = n + t.size → Out w0 w' g' n' c' (L ++ t.data.toList) → Fr (fun i => i = g) w w' → wpList Tryz.prog ops Q rest (a.put o.dst (.slice (some ⟨g', 0, none⟩) n' c')) w') : wpList Tryz.prog ops Q (o :: rest) a w := by
  obtain ⟨g', c', w', hr, h2, h3⟩ := run_apS hO t hb o.type
  exact Lib.wpList_append_run w hgd s x _ _ ho _ _ hs hx _ _ hr (h g' (n + t.size) c' w' rfl h2 h3)

/-! ### flag -/
variable {h : Nat}
theorem or_flag : ∀ f : Nat, f < 32 → (f / 4 % 2 = 0 → bits .or .u8 (f : Int) 4 = ((f + 4 : Nat) : Int)) ∧ (f / 8 % 2 = 0 → bits .or .u8 (f : Int) 8 = ((f + 8 : Nat) : Int)) ∧ (f / 16 % 2 = 0 → bits .or .u8 (f : Int) 16 = ((f + 16 : Nat) : Int)) ∧ (f / 2 % 2 = 0 → bits .or .u8 (f : Int) 2 = ((f + 2 : Nat) : Int)) := by decide +kernel
set_option maxHeartbeats 1000000 in
theorem pflag {f f' : Nat} {fl : Int} {t : By} (k : HW w0 w h g n c (pre f t)) (hf : f < 256) (hf' : f' < 256) (hor : bits .or .u8 (f : Int) fl = (f' : Int)) (hn : n ≤ 100000000) :
    Calls Tryz.prog 34 #[.pointer (some ⟨h, 0, none⟩), .int .u8 fl] w fun e w' => e = .returned (.tuple #[]) ∧ HW w0 w' h g n c (pre f' t) := by
  have c0 := k.c0
  obtain ⟨b3, f3, hs⟩ := k.out.bump hf
  have HO := Lib.hid (show HW w0 (w.setCell ⟨g, 3, none⟩ (.int .u8 (f' : Int))) h g n c (pre f' t) from ⟨(Below.heap_setCell _ _ _ _ k.ne).trans k.blk, hs f' hf', k.new⟩)
  have hn3 : (3 : Int) < (n : Int) := by have := k.out.len; rw [pre_len] at this; omega
  clear k hs
  go_enter Tryz.func34, Tryz.ntmps34
  go_wp2_with fail
  exact (show _ ∧ _ from ⟨rfl, .tuple #[], results_none rfl _ _ _, rfl, HO.out⟩)

/-! ### number -/
set_option maxHeartbeats 2000000 in
theorem pnumberH (k : HW w0 w h g n c L) (N : Nat) (hN : N < 65536) (hn : n ≤ 10000000) :
    Calls Tryz.prog 35 #[.pointer (some ⟨h, 0, none⟩), .int .i64 (N : Int)] w fun e w' => e = .returned (.tuple #[]) ∧ ∃ g' n' c', n' = n + 2 ∧ HW w0 w' h g' n' c' (L ++ numL N 2) := by
  have HK := Lib.hid k
  have c0 : w.drew.cell? ⟨h, 0, none⟩ = some (.slice (some ⟨g, 0, none⟩) n c) := (k.still ((Fr.refl _ w).drew)).c0
  have HNU := Lib.hid (fun wx => pnum wx N 2 (by decide) (by decide) (by omega))
  clear k
  go_enter Tryz.func35, Tryz.ntmps35
  go_region_law (first
    | (refine step_apB (by rfl) (.tmp 8) (.tmp 10) (by rfl) (by rfl) H6.out.1.out ⟨q6, 0, none⟩ 2 c6 (numL N 2) (by rw [numL_len]) (by rfl) H6.out.2 (by omega) ?_; intro g7 n7 c7 w7 hn7 ho7 hF7; have H7 := Lib.hid (H6.out.1.grow ho7 hF7); have d7 := H7.out.c0; have e7 := H7.out.f0; have HS := Lib.hid H7.out.store; have HN7 := Lib.hid hn7; clear hn7 ho7 hF7)
    | (go_simp; go_at_call 39; refine (HNU.out _).mono ?_; rintro e w6 ⟨q6, c6, rfl, hs6, hF6⟩; have H6 := Lib.hid (⟨HK.out.still ((Fr.refl _ _).drew.trans hF6.out (fun _ _ e => e)), hs6.out.1⟩ : _ ∧ _); have d6 := H6.out.1.c0; clear hs6 hF6))
  all_goals
    go_wp2_with fail
    exact (show _ ∧ _ from ⟨rfl, .tuple #[], results_none rfl _ _ _, rfl, g7, n7, c7, HN7.out, HS.out⟩)
end
end Go.Proofs.YtcdhakfmljjaoaaGreatDoor.gz

/-
  The program's header that is being written: a new one, the extra part, texts, the checksum.
-/

namespace Go.Proofs.YtcdhakfmljjaoaaGreatDoor.gz
set_option maxRecDepth 100000
open Go.RowKit Go.Maps Go.Proofs.YtcdhakfmljjaoaaGreatDoor.fl Go.Proofs.YtcdhakfmljjaoaaGreatDoor.cd Go.Proofs.YtcdhakfmljjaoaaGreatDoor.ft
set_option maxRecDepth 100000

theorem zero_cells (k : Nat) : (Builtin.zeroCells #[(.int .u8 0 : Value)] k).toList = bs (List.replicate k 0) := by
  unfold Builtin.zeroCells bs
  rw [Array.toList_map, Array.toList_range, List.map_replicate]
  apply List.ext_getElem
  · simp
  · intro i h1 h2
    simp [Nat.mod_one]
/-- What append has made of ten bytes. -/
theorem new_out (w w1 : World) (hF : Fr (fun _ => False) w w1) (cs : Array Value) (G : Nat) (hG : 10 ≤ G) (hG2 : G ≤ maxLen) (hs : cs.size = G) (ht : cs.toList.take 10 = bs (pre 0 [])) :
    Out w (w1.alloc (.cells cs 5 (0, 0))) w1.heap.size 10 G (pre 0 []) := by
  refine ⟨⟨?_, .inr ⟨w1.heap.size, G, cs, rfl, hF.size, heap_alloc_new _ _, ?_, hG2, by rw [hs, Nat.mul_one], ?_⟩⟩, by rw [pre_len]; rfl, hF.alloc _⟩
  · rw [bs_length, Nat.mul_one]
  · rw [pre_len]; exact hG
  · rw [pre_len]
    exact ht
set_option maxHeartbeats 2000000 in
theorem pnew (w : World) : Calls Tryz.prog 19 #[] w fun e w' => ∃ h g c, e = .returned (.pointer (some ⟨h, 0, none⟩)) ∧ Hid (HW w w' h g 10 c (pre 0 [])) := by
  obtain ⟨i0, hi, hz0, hz1, hz2⟩ := info_parts infoB
  obtain ⟨W1, hW1⟩ : ∃ W, W = w.alloc (.cells #[.int .u8 31, .int .u8 139, .int .u8 8] 5 (3, 4)) := ⟨_, rfl⟩
  have hsz1 : W1.heap.size = w.heap.size + 1 := by rw [hW1]; simp
  have hb1 : W1.drew.heap[w.heap.size]? = some (.cells #[.int .u8 31, .int .u8 139, .int .u8 8] 5 (3, 4)) := by rw [hW1]; exact heap_alloc_new w _
  have hF1 : Fr (fun _ => False) w W1.drew := by rw [hW1]; exact ((Fr.refl _ w).alloc _).drew
  have hold : (Builtin.firstCells i0.size 3 (.slice (some ⟨w.heap.size, 0, none⟩) 3 3)).run Tryz.prog W1.drew = .ok (bs [31, 139, 8]).toArray W1.drew := by
    have x0 : W1.drew.cell? ⟨w.heap.size, 0, none⟩ = some (.int .u8 31) := by simp [World.cell?, hb1]
    have x1 : W1.drew.cell? ⟨w.heap.size, 1, none⟩ = some (.int .u8 139) := by simp [World.cell?, hb1]
    have x2 : W1.drew.cell? ⟨w.heap.size, 2, none⟩ = some (.int .u8 8) := by simp [World.cell?, hb1]
    rw [hz1]
    simp [Builtin.firstCells, loadCells, loadCellsFrom, add_plain, run_load, x0, x1, x2, bs]
  have hr := fun ty => Lib.run_append_grow_zeros (P := Tryz.prog) W1 22 3 ty 5 i0 (.int .u8 0) .i64 .i64 Tryz.underlying22 Tryz.underlying3 hi hz0 (some ⟨w.heap.size, 0, none⟩) 3 3 (bs [31, 139, 8]) hold 7 (by omega) (by omega) (by omega) (by decide) (by rw [hz2]; decide) (by rw [hz2]; decide)
  have hGn : 10 ≤ grownCap W1 10 3 5 := grownCap_ge W1 _ _ _
  have hG63 : grownCap W1 10 3 5 ≤ maxLen := grownCap_le_maxLen W1 10 3 5 (by unfold maxLen; omega)
  obtain ⟨G, hG⟩ : ∃ G, G = grownCap W1 10 3 5 := ⟨_, rfl⟩
  rw [← hG] at hGn hG63
  simp only [show 3 + 7 = 10 from rfl, ← hG] at hr
  obtain ⟨cur, hcur⟩ : ∃ cur, cur = (bs [31, 139, 8]).toArray ++ Builtin.zeroCells (Value.int .u8 0).cells 7 ++ Builtin.zeroCells (Value.int .u8 0).cells (G - 10) := ⟨_, rfl⟩
  rw [← hcur] at hr
  have hcs : cur.size = G := by
    rw [hcur, Array.size_append, Array.size_append, size_zeroCells, size_zeroCells]
    show 3 + 7 * 1 + (G - 10) * 1 = G
    omega
  have hct : cur.toList.take 10 = bs (pre 0 []) := by
    rw [hcur, Array.toList_append, Array.toList_append]
    rw [show (Value.int .u8 0).cells = #[(.int .u8 0 : Value)] from rfl, zero_cells, zero_cells]
    rw [List.take_append_of_le_length (by simp [bs]), List.take_of_length_le (by simp [bs])]
    rfl
  have hO := new_out w W1.drew hF1 cur G hGn hG63 hcs hct
  have hW : HW w ((W1.drew.alloc (.cells cur 5 (0, 0))).alloc (.cells #[.slice (some ⟨w.heap.size + 1, 0, none⟩) 10 G] 58 (0, 0))) (w.heap.size + 2) (w.heap.size + 1) 10 G (pre 0 []) := by
    refine ⟨?_, ?_, by omega⟩
    · have := heap_alloc_new (W1.drew.alloc (.cells cur 5 (0, 0))) (.cells #[.slice (some ⟨w.heap.size + 1, 0, none⟩) 10 G] 58 (0, 0))
      rw [show (W1.drew.alloc (.cells cur 5 (0, 0))).heap.size = w.heap.size + 2 by simp [hsz1]] at this
      exact this
    · have := hO.still ((Fr.refl (fun _ => False) (W1.drew.alloc (.cells cur 5 (0, 0)))).alloc (.cells #[.slice (some ⟨w.heap.size + 1, 0, none⟩) 10 G] 58 (0, 0)))
      rw [show W1.drew.heap.size = w.heap.size + 1 from hsz1] at this
      exact this
  have HWW := Lib.hid hW
  rw [hsz1] at hr
  have HR := Lib.hid hr
  clear hi hz0 hz1 hz2 hb1 hF1 hold hr hG hcur hcs hct hO hW hsz1 hGn hG63
  have hcv : (convert 22 22 (.slice (some ⟨w.heap.size, 0, none⟩) 3 3)).run Tryz.prog (w.alloc (.cells #[.int .u8 31, .int .u8 139, .int .u8 8] 5)) = .ok (.slice (some ⟨w.heap.size, 0, none⟩) 3 3) (w.alloc (.cells #[.int .u8 31, .int .u8 139, .int .u8 8] 5 (3, 4))) := Lib.run_convert_bytes_const (P := Tryz.prog) w 22 5 #[.int .u8 31, .int .u8 139, .int .u8 8] 3 3 Tryz.underlying22 Tryz.underlying5
  subst hW1
  go_enter Tryz.func19, Tryz.ntmps19
  go_wp2_with (at_builtin; refine Lib.wpList_append_run _ rfl _ _ _ _ rfl _ _ rfl rfl _ _ (HR.out _) ?_)
  go_ret
  exact ⟨_, _, _, rfl, HWW⟩
section
variable {w w0 w' : World} {h g n c f : Nat} {t : By}
theorem exB_len (e : By) : (exB e).length ≤ e.length + 2 := by
  unfold exB
  split
  · simp
  · rw [List.length_append, numL_len]; omega
theorem hw_as {L L' : By} {g' n' c' : Nat} (k : HW w0 w h g' n' c' L) (e : L = L') : ∃ g' n' c', HW w0 w h g' n' c' L' := ⟨g', n', c', e ▸ k⟩
set_option maxHeartbeats 4000000 in
theorem pextra (k : HW w0 w h g n c (pre f t)) (hf : f < 32) (h4 : f / 4 % 2 = 0) (A2 : Option Addr) (m cap2 : Nat) (e2 : By) (hr : Rd w0 w0.heap.size A2 e2) (hm : m = e2.length) (hm2 : m ≤ 65535) (hn : n ≤ 3000000) :
    Calls Tryz.prog 20 #[.pointer (some ⟨h, 0, none⟩), .slice A2 m cap2] w fun e w' => e = .returned (.tuple #[]) ∧ ∃ g' n' c', HW w0 w' h g' n' c' (pre (f + hasN e2 4) (t ++ exB e2)) := by
  by_cases hm0 : m = 0
  · have he : e2 = [] := List.length_eq_zero_iff.1 (by omega)
    have HO := Lib.hid (hw_as k (L' := pre (f + hasN e2 4) (t ++ exB e2)) (by rw [he]; unfold hasN exB; rw [if_pos rfl, if_pos rfl, List.append_nil]; rfl))
    clear k hr hm he
    subst hm0
    go_enter Tryz.func20, Tryz.ntmps20
    go_wp2_with fail
    exact (show _ ∧ _ from ⟨rfl, .tuple #[], results_none rfl _ _ _, rfl, HO.out⟩)
  · have hne : e2 ≠ [] := fun e => hm0 (by rw [hm, e]; rfl)
    obtain ⟨blk, off, rfl, hblk, _⟩ := id hr hne
    have HS0 := Lib.hid (show SrcA w0 ⟨blk, off, none⟩ e2 from ⟨hr.src, hblk⟩)
    have HFL := Lib.hid (pflag (fl := 4) k (by omega) (show f + 4 < 256 by omega) ((or_flag f hf).1 h4) (by omega))
    have HM := Lib.hid hm
    have HE := Lib.hid (show pre (f + 4) t ++ numL m 2 ++ e2 = pre (f + hasN e2 4) (t ++ exB e2) from by
      unfold hasN exB
      rw [if_neg hne, if_neg hne, pre_app, pre_app, hm, List.append_assoc])
    have hm1 : ¬ (m : Int) = 0 := by omega
    clear hr hm hne k
    go_enter Tryz.func20, Tryz.ntmps20
    go_wp2_with fail
    refine HFL.out.mono ?_
    rintro e w1 ⟨rfl, k1⟩
    have HNU := Lib.hid (pnumberH k1 m (by omega) (by omega))
    clear k1 HFL
    go_wp2_with fail
    refine HNU.out.mono ?_
    rintro e w2 ⟨rfl, g2, n2, c2, hn2, k2⟩
    have H2 := Lib.hid k2
    have c0 := k2.c0
    have hb2 : n2 ≤ 3000002 := by omega
    clear hn2
    have HS2 := Lib.hid (HS0.out.still k2.out.fr)
    clear HNU
    go_wp2_with (at_builtin; refine wpl_apB rfl (.tmp 17) (.tmp 18) rfl rfl H2.out.out ⟨blk, off, none⟩ m cap2 e2 HM.out rfl HS2.out (by omega) ?_; intro g7 n7 c7 w7 hn7 ho7 hF7; have H7 := Lib.hid (H2.out.grow ho7 hF7); have d7 := H7.out.c0; have e7 := H7.out.f0; have HS := Lib.hid H7.out.store; clear ho7 hF7 hn7)
    have HO := Lib.hid (hw_as HS.out HE.out)
    exact (show _ ∧ _ from ⟨rfl, .tuple #[], results_none rfl _ _ _, rfl, HO.out⟩)
end
end Go.Proofs.YtcdhakfmljjaoaaGreatDoor.gz

/-
  The program's header that is being written: texts, the checksum; Grow and Concat at bytes.
-/
namespace Go.Proofs.YtcdhakfmljjaoaaGreatDoor.gz
set_option maxRecDepth 100000
open Go.RowKit Go.Maps Go.Proofs.YtcdhakfmljjaoaaGreatDoor.fl Go.Proofs.YtcdhakfmljjaoaaGreatDoor.cd Go.Proofs.YtcdhakfmljjaoaaGreatDoor.ft
set_option maxRecDepth 100000

theorem src_zero (w : World) : SrcA (w.alloc (.cells #[.int .u8 0] 5 (0, 0))) ⟨w.heap.size, 0, none⟩ [0] := by
  refine ⟨fun j u hu => ?_, by simp⟩
  have h := cellAt (heap_alloc_new w (.cells #[.int .u8 0] 5 (0, 0))) j
  rw [add_plain, Nat.zero_add, h]
  simpa [bs] using hu
section
variable {w w0 w' : World} {h g n c f : Nat} {t : By}
set_option maxHeartbeats 4000000 in
theorem ptext (k : HW w0 w h g n c (pre f t)) (fl : Nat) (hf : f < 256) (hf2 : f + fl < 256) (hor : bits .or .u8 (f : Int) (fl : Int) = ((f + fl : Nat) : Int)) (s : ByteArray) (hs : s.size ≤ 1048576) (hn : n ≤ 3000000) :
    Calls Tryz.prog 21 #[.pointer (some ⟨h, 0, none⟩), .int .u8 (fl : Int), .string s] w fun e w' => e = .returned (.tuple #[]) ∧ ∃ g' n' c', HW w0 w' h g' n' c' (pre (f + hasN s.data.toList fl) (t ++ txB s.data.toList)) := by
  by_cases hs0 : s = ⟨#[]⟩
  · subst hs0
    have HO := Lib.hid (hw_as k (L' := pre (f + hasN [] fl) (t ++ txB [])) (by unfold hasN txB; rw [if_pos rfl, if_pos rfl, List.append_nil]; rfl))
    clear k
    go_enter Tryz.func21, Tryz.ntmps21
    go_wp2_with fail
    exact (show _ ∧ _ from ⟨rfl, .tuple #[], results_none rfl _ _ _, rfl, HO.out⟩)
  · have hne : s.data.toList ≠ [] := fun e => hs0 (by
      apply ByteArray.ext
      exact Array.toList_inj.1 e)
    have hseq : (s.toList == []) = false := by
      rw [ByteArray.toList_eq]
      simpa using hne
    have HFL := Lib.hid (pflag (fl := (fl : Int)) k hf hf2 hor (by omega))
    have HE := Lib.hid (show pre (f + fl) t ++ s.data.toList ++ [0] = pre (f + hasN s.data.toList fl) (t ++ txB s.data.toList) from by
      unfold hasN txB
      rw [if_neg hne, if_neg hne, pre_app, pre_app, List.append_assoc])
    clear hne k hor
    go_enter Tryz.func21, Tryz.ntmps21
    go_wp2_with fail
    refine HFL.out.mono ?_
    rintro e w1 ⟨rfl, k1⟩
    have H1 := Lib.hid k1
    have c0 := k1.c0
    clear k1 HFL
    go_wp2_with (first
      | (at_builtin; (refine wpl_apS rfl (.tmp 15) (.tmp 16) rfl rfl H1.out.out s rfl (by omega) ?_); (intro g7 n7 c7 w7 hn7 ho7 hF7); (have hb7 : n7 ≤ 5000000 := by omega); (have H7 := Lib.hid ((H1.out.grow ho7 hF7).still ((Fr.refl _ w7).alloc (.cells #[.int .u8 0] 5 (0, 0)))); have HS7 := Lib.hid (src_zero w7)); (clear hn7 ho7 hF7))
      | (at_builtin; (refine wpl_apB rfl (.tmp 17) (.tmp 18) rfl rfl H7.out.out ⟨w7.heap.size, 0, none⟩ 1 1 [0] rfl rfl HS7.out (by omega) ?_; intro g8 n8 c8 w8 hn8 ho8 hF8; have H8 := Lib.hid (H7.out.grow ho8 hF8); have d8 := H8.out.c0; have e8 := H8.out.f0; have HS := Lib.hid H8.out.store; clear ho8 hF8 hn8)))
    have HO := Lib.hid (hw_as HS.out HE.out)
    exact (show _ ∧ _ from ⟨rfl, .tuple #[], results_none rfl _ _ _, rfl, HO.out⟩)
set_option maxHeartbeats 4000000 in
theorem psumH (k : HW w0 w h g n c (pre f t)) (hT : DT w0) (hf : f < 256) (hf2 : f + 2 < 256) (hor : bits .or .u8 (f : Int) 2 = ((f + 2 : Nat) : Int)) (hn : n ≤ 4000000) :
    Calls Tryz.prog 22 #[.pointer (some ⟨h, 0, none⟩)] w fun e w' => e = .returned (.tuple #[]) ∧ ∃ g' n' c', HW w0 w' h g' n' c' (pre (f + 2) t ++ numL (csum (pre (f + 2) t) % 65536) 2) := by
  have HFL := Lib.hid (pflag (fl := 2) k hf hf2 hor (by omega))
  have HT := Lib.hid hT
  obtain ⟨L, hL⟩ : ∃ L, L = pre (f + 2) t := ⟨_, rfl⟩
  rw [← hL] at HFL ⊢
  obtain ⟨N, hN⟩ : ∃ N, N = csum L % 65536 := ⟨_, rfl⟩
  rw [← hN]
  have HN := Lib.hid hN
  clear k hor hT hL hN
  go_enter Tryz.func22, Tryz.ntmps22
  go_wp2_with fail
  refine HFL.out.mono ?_
  rintro e w1 ⟨rfl, k1⟩
  have c0 := k1.c0
  have HS := Lib.hid (psumHead w1 (HT.out.keep k1.out.fr) (some ⟨g, 0, none⟩) n c w1.heap.size L k1.out.own.rd k1.out.len hn)
  have HNU := Lib.hid (pnumberH k1 N (by rw [HN.out]; omega) (by omega))
  rw [← HN.out] at HS
  clear k1 HFL
  go_wp2_with (go_at_call 36; refine HS.out.mono ?_; rintro e w' ⟨rfl, rfl⟩)
  refine HNU.out.mono ?_
  rintro e w2 ⟨rfl, g2, n2, c2, hn2, k2⟩
  have H2 := Lib.hid (⟨g2, n2, c2, k2⟩ : ∃ g' n' c', HW w0 w2 h g' n' c' (L ++ numL N 2))
  clear k2 hn2 HNU
  go_wp2_with fail
  exact (show _ ∧ _ from ⟨rfl, .tuple #[], results_none rfl _ _ _, rfl, H2.out⟩)
end

/-! ### Grow, Concat -/
set_option maxHeartbeats 2000000 in
theorem grow_bytes (w : World) (n : Nat) (hn : n ≤ 100000000) :
    Calls Tryz.prog 58 #[.slice none 0 0, .int .i64 n] w fun e w' => ∃ v, e = .returned v ∧ w'.ownsRow w.heap.size 5 1 v 0 [] ∧ Fr (fun _ => False) w w' := by
  rcases Nat.eq_zero_or_pos n with h0 | h0
  · subst h0
    clear hn
    go_enter Tryz.func58, Tryz.ntmps58
    go_wp2
    go_ret
    exact ⟨_, rfl, ⟨rfl, Or.inl ⟨rfl, rfl⟩⟩, Fr.refl _ _⟩
  · obtain ⟨i0, hi, hz0, hz1, hz2⟩ := info_parts infoB
    have hrz : ∀ ty, (Builtin.append_ #[22, 3] ty #[.slice none 0 0, .int .i64 n]).run Tryz.prog w = .ok (.slice (some ⟨w.heap.size, 0, none⟩) n (grownCap w n 0 5)) (w.drew.alloc (.cells (Builtin.zeroCells (Value.int .u8 0).cells n ++ Builtin.zeroCells (Value.int .u8 0).cells (grownCap w n 0 5 - n)) 5)) := fun ty =>
      Lib.run_append_nil_zeros w 22 3 ty 5 i0 (.int .u8 0) .i64 .i64 Tryz.underlying22 Tryz.underlying3 hi hz0 n h0 (by omega) (by omega) (by rw [hz2]; omega)
    have hGn : n ≤ grownCap w n 0 5 := grownCap_ge w _ _ _
    have hG63 : grownCap w n 0 5 ≤ maxLen := grownCap_le_maxLen w n 0 5 (by unfold maxLen; omega)
    obtain ⟨G, hG⟩ : ∃ G, G = grownCap w n 0 5 := ⟨_, rfl⟩
    rw [← hG] at hrz hGn hG63
    obtain ⟨cur, hcur⟩ : ∃ cur, cur = Builtin.zeroCells (Value.int .u8 0).cells n ++ Builtin.zeroCells (Value.int .u8 0).cells (G - n) := ⟨_, rfl⟩
    have hsz : cur.size = G * 1 := by rw [hcur, Array.size_append, size_zeroCells, size_zeroCells]; show n * 1 + (G - n) * 1 = G * 1; omega
    rw [← hcur] at hrz
    have HO : Hid ((w.drew.alloc (.cells cur 5)).ownsRow w.heap.size 5 1 (.slice (some ⟨w.heap.size, 0, none⟩) 0 G) 0 []) := Lib.hid (World.ownsRow_made w.drew cur G (Nat.le_refl _) hG63 hsz)
    have HF := Lib.hid (((Fr.refl (fun _ => False) w).drew).alloc (.cells cur 5))
    have HR := Lib.hid hrz
    have hG63' : G ≤ 9223372036854775807 := by unfold maxLen at hG63; omega
    clear hi hz0 hz1 hz2 hrz hG hcur hsz hG63
    go_enter Tryz.func58, Tryz.ntmps58
    go_wp2_with (at_builtin; refine Lib.wpList_append_run _ rfl _ _ _ _ rfl _ _ rfl rfl _ _ (HR.out _) ?_)
    go_ret
    exact ⟨_, rfl, HO.out, HF.out⟩
/-- Rows of bytes, one behind the other. -/
def catB (P : List (Addr × Nat × By)) (k : Nat) : By := (P.take k).flatMap (·.2.2)
theorem catB_next {P : List (Addr × Nat × By)} {k : Nat} {q : Addr × Nat × By} (h : P[k]? = some q) : catB P (k + 1) = catB P k ++ q.2.2 := by
  unfold catB
  rw [List.take_add_one, h, List.flatMap_append]
  simp
theorem catB_len {P : List (Addr × Nat × By)} {k : Nat} : (catB P k).length ≤ (catB P P.length).length := by
  rcases Nat.lt_or_ge k P.length with h | h
  · unfold catB
    rw [List.take_length]
    conv => rhs; rw [← List.take_append_drop k P, List.flatMap_append, List.length_append]
    omega
  · unfold catB
    rw [List.take_of_length_le h, List.take_length]
    exact Nat.le_refl _
structure RowsB (w : World) (g : Nat) (P : List (Addr × Nat × By)) : Prop where
  cell : ∀ (k : Nat) (q : Addr × Nat × By), P[k]? = some q → w.cell? ⟨g, k, none⟩ = some (.slice (some q.1) q.2.2.length q.2.1)
  block : g < w.heap.size
  rd : ∀ (k : Nat) (q : Addr × Nat × By), P[k]? = some q → SrcA w q.1 q.2.2
theorem RowsB.still {w w' : World} {g : Nat} {P : List (Addr × Nat × By)} (h : RowsB w g P) (hF : Fr (fun _ => False) w w') : RowsB w' g P :=
  ⟨fun k q hk => (World.cell?_of_block (w := w) (w' := w') (a := ⟨g, k, none⟩) (hF.block g h.block id)).trans (h.cell k q hk), Nat.lt_of_lt_of_le h.block hF.size, fun k q hk => (h.rd k q hk).still hF⟩
set_option maxHeartbeats 4000000 in
theorem concat_bytes (w : World) (g cap : Nat) (P : List (Addr × Nat × By)) (hP : RowsB w g P) (hm : P.length ≤ 100) (hl : (catB P P.length).length ≤ 100000000) :
    Calls Tryz.prog 37 #[.slice (some ⟨g, 0, none⟩) P.length cap] w fun e w' => ∃ v, e = .returned v ∧ w'.ownsRow w.heap.size 5 1 v (catB P P.length).length (bs (catB P P.length)) ∧ Fr (fun _ => False) w w' := by
  obtain ⟨i0, hi, hz0, hz1, hz2⟩ := info_parts infoB
  have HI := Lib.hid (⟨hi, hz0, hz1, hz2⟩ : _ ∧ _ ∧ _ ∧ _)
  obtain ⟨m, hmm⟩ : ∃ m, m = P.length := ⟨_, rfl⟩
  have HL : Hid (∀ k, (catB P k).length ≤ 100000000) := Lib.hid fun k => Nat.le_trans catB_len hl
  have HP := Lib.hid hP
  rw [← hmm] at hm hl ⊢
  have HM := Lib.hid hmm
  obtain ⟨L, hL⟩ : ∃ L, L = catB P m := ⟨_, rfl⟩
  have HLL := Lib.hid hL
  rw [← hL]
  clear hi hz0 hz1 hz2 hP hmm hl hL
  go_enter Tryz.func37, Tryz.ntmps37
  go_wp2_with fail
  go_loop [3, 5, 11] (fun s _ i => ∃ k c : Nat, k ≤ m ∧ s = .int .i64 c ∧ i = .int .i64 k ∧ Hid (c = (catB P k).length)) (fun _ _ i => m - (intOf i).toNat)
  case atStart => exact ⟨0, 0, Nat.zero_le _, rfl, rfl, (show _ = _ from rfl)⟩
  case round =>
    obtain ⟨k, c, hk, rfl, rfl, HC⟩ := hrel
    have hc5 : c ≤ 100000000 := by rw [HC.out]; exact HL.out k
    by_cases hlt : k < m
    · obtain ⟨q, hq⟩ : ∃ q, P[k]? = some q := ⟨_, List.getElem?_eq_getElem (by have := HM.out; omega)⟩
      have p0 := HP.out.cell k q hq
      have HN := Lib.hid (catB_next hq)
      obtain ⟨gq, cq, lq⟩ := q
      have hN2 := HL.out (k + 1)
      rw [HN.out, List.length_append, ← HC.out] at hN2
      obtain ⟨d, hd⟩ : ∃ d, d = lq.length := ⟨_, rfl⟩
      have p1 : w.cell? ⟨g, k, none⟩ = some (.slice (some gq) d cq) := by rw [p0, hd]
      have hN3 : c + d ≤ 100000000 := by rw [hd]; exact hN2
      have HD := Lib.hid (show c + d = (catB P (k + 1)).length by rw [HN.out, List.length_append, ← HC.out, hd])
      clear p0 hq hd hN2
      go_wp2_with fail
      go_round
      case rel => exact ⟨k + 1, c + d, by omega, by go_num, by go_num, HD⟩
      case measure => simp [intOf]; omega
    · obtain rfl : k = m := by omega
      have HG := Lib.hid (fun (wr : World) => grow_bytes wr c hc5)
      go_wp2_with fail
      refine (HG.out _).mono ?_
      rintro e w1 ⟨v, rfl, hown, hF⟩
      have HO := Lib.hid (⟨hown, hF⟩ : _ ∧ _)
      clear hown hF HG
      go_wp2_with fail
      go_loopw [6, 8, 27] (fun v _ i wr => ∃ j : Nat, j ≤ k ∧ i = .int .i64 j ∧ Hid (wr.ownsRow w.heap.size 5 1 v (catB P j).length (bs (catB P j)) ∧ Fr (fun _ => False) w wr)) (fun _ _ i _ => k - (intOf i).toNat)
      case atStart => exact ⟨0, Nat.zero_le _, rfl, (show _ ∧ _ from HO.out)⟩
      case round =>
        obtain ⟨j, hj, rfl, HW⟩ := hrel
        by_cases hlt2 : j < k
        · obtain ⟨q, hq⟩ : ∃ q, P[j]? = some q := ⟨_, List.getElem?_eq_getElem (by have := HM.out; omega)⟩
          have hPr := HP.out.still HW.out.2
          have p0 := hPr.cell j q hq
          have HN := Lib.hid (catB_next hq)
          have hrq := hPr.rd j q hq
          obtain ⟨gq, cq, lq⟩ := q
          have hN2 := HL.out (j + 1)
          rw [HN.out, List.length_append] at hN2
          obtain ⟨d, hd⟩ : ∃ d, d = lq.length := ⟨_, rfl⟩
          have p1 : wr.cell? ⟨g, j, none⟩ = some (.slice (some gq) d cq) := by rw [p0, hd]
          obtain ⟨cj, hcj⟩ : ∃ cj, cj = (catB P j).length := ⟨_, rfl⟩
          have hN3 : cj + d ≤ 100000000 := by rw [hd, hcj]; exact hN2
          have HD := Lib.hid (show cj + d = (catB P (j + 1)).length by rw [HN.out, List.length_append, hcj, hd])
          have HCJ := Lib.hid hcj
          have HDD := Lib.hid hd
          have HS := Lib.hid hrq.1
          clear p0 hq hd hN2 hcj hPr hrq
          go_wp2_with (at_builtin; refine wpList_append_own _ rfl (.tmp 31) (.tmp 32) 22 rfl w.heap.size 5 i0 (.int .u8 0) 1 1 Tryz.underlying22 HI.out.1 HI.out.2.1 HI.out.2.2.1 HI.out.2.2.2 rfl (by omega) _ (catB P j).length _ rfl HW.out.1 gq d cq (bs lq) rfl (by rw [bs_length, ← HDD.out, Nat.mul_one]) HS.out (bs_one lq) (by rw [← HCJ.out]; unfold maxLen; omega) (by rw [← HCJ.out]; omega) HW.out.2.size ?_; intro v' w2 hown2 hgrow2 _)
          have H2 := Lib.hid (show w2.ownsRow w.heap.size 5 1 v' (catB P (j + 1)).length (bs (catB P (j + 1))) ∧ Fr (fun _ => False) w w2 from ⟨by rw [HN.out, bs_append, List.length_append, ← HDD.out]; exact hown2, HW.out.2.grown hgrow2 (fun q e => own_past_ge HW.out.1 e)⟩)
          clear hown2 hgrow2
          go_wp2
          go_roundw
          case rel => exact ⟨j + 1, by omega, by go_num, H2⟩
          case measure => simp [intOf]; omega
        · obtain rfl : j = k := by omega
          have HE := Lib.hid (show _ ∧ _ from ⟨HW.out.1, HW.out.2⟩)
          go_wp2_with fail
          go_ret
          rw [HLL.out]
          exact ⟨_, rfl, HE.out⟩
end Go.Proofs.YtcdhakfmljjaoaaGreatDoor.gz
