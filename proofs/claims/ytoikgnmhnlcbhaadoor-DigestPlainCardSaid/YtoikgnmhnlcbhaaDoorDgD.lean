/-
  The document's block.
-/
import Derived.Test.YtoikgnmhnlcbhaaDoorDgC
import Derived.Deep.AppendLies
import Derived.Deep.RegionLaw
import Derived.Maps.AppendAt
namespace Go.Proofs.YtoikgnmhnlcbhaaDoor.dg
set_option maxRecDepth 100000
open Go.RowKit Go.Maps
set_option maxRecDepth 100000

theorem cut4 (blk off cap k : Nat) (hc : 64 ≤ cap) (hk : k < 16) (w : World) :
    (Instr.slice 22 (.slice (some ⟨blk, off, none⟩) 64 cap) (some (.int .i64 (4 * (k : Int)))) (some (.int .i64 (4 * (k : Int) + 4))) none).run Tryd.prog w = .ok (.slice (some ⟨blk, off + 4 * k, none⟩) 4 (cap - 4 * k)) w := by
  obtain ⟨x, hx⟩ : ∃ x : Int, x = 4 * (k : Int) := ⟨_, rfl⟩
  obtain ⟨y, hy⟩ : ∃ y : Int, y = x + 4 := ⟨_, rfl⟩
  obtain ⟨n, hn⟩ : ∃ n : Nat, n = 64 := ⟨_, rfl⟩
  rw [← hx, ← hy, ← hn]
  have h1 : 0 ≤ x := by omega
  have h2 : x ≤ y := by omega
  have h3 : y ≤ (cap : Int) := by omega
  rw [run_slice_lh w 22 (some ⟨blk, off, none⟩) n cap Tryd.underlying22 .i64 .i64 x y h1 h2 h3]
  have hs : (sizeOf (Tryd.prog.elem 22)).run Tryd.prog w = .ok 1 w := by kernel_rfl
  rw [hs]
  have e1 : x.toNat = 4 * k := by omega
  have e2 : y.toNat = 4 * k + 4 := by omega
  simp only [Result.andThen, sliced, e1, e2, Nat.mul_one]
  rw [if_neg (by omega), show 4 * k + 4 - 4 * k = 4 by omega]
  simp [add_plain]
theorem ixW (g cap k n : Nat) (hk : k < n) (i : Int) (hi : i = (k : Int)) (w : World) : (Instr.indexAt 39 (.slice (some ⟨g, 0, none⟩) n cap) (.int .i64 i)).run Tryd.prog w = .ok (.pointer (some ⟨g, k, none⟩)) w := by
  subst hi
  rw [run_indexAt_slice w 39 ⟨g, 0, none⟩ n cap .i64 k Tryd.underlying39, if_pos ⟨by omega, by omega⟩]
  have hs : (sizeOf (Tryd.prog.elem 39)).run Tryd.prog w = .ok 1 w := by kernel_rfl
  rw [hs]
  simp only [Result.andThen, Int.toNat_natCast, Nat.mul_one, add_plain, Nat.zero_add]
theorem colsV_succ (m : List W) (r : Nat) (v : List W) (k : Nat) : colsV m r v (k + 1) = colV m r (colsV m r v k) k := by unfold colsV; rw [List.range_succ, List.foldl_append, List.foldl_cons, List.foldl_nil]
theorem diasV_succ (m : List W) (r : Nat) (v : List W) (k : Nat) : diasV m r v (k + 1) = diaV m r (diasV m r v k) k := by unfold diasV; rw [List.range_succ, List.foldl_append, List.foldl_cons, List.foldl_nil]
theorem roundsV_succ (m : List W) (v : List W) (k : Nat) : roundsV m v (k + 1) = roundV m (roundsV m v k) k := by unfold roundsV; rw [List.range_succ, List.foldl_append, List.foldl_cons, List.foldl_nil]
theorem endV_succ (h v : List W) (k : Nat) : endV h v (k + 1) = endV h v k ++ [at_ h k ^^^ at_ v k ^^^ at_ v (k + 8)] := by unfold endV; rw [List.range_succ, List.map_append, List.map_cons, List.map_nil]
theorem endV_length (h v : List W) (k : Nat) : (endV h v k).length = k := by unfold endV; rw [List.length_map, List.length_range]
theorem mixV_length (v : List W) (a b c d : Nat) (x y : W) : (mixV v a b c d x y).length = v.length := by simp only [mixV, mx1, mx2, mx3, List.length_set]
theorem rwN_lt (r i : Nat) : rwN r i < 16 := rows_lt _
/-- The sixteen words that are mixed. -/
structure Vw (wm wr : World) (g cap : Nat) (v : List W) : Prop where
  i : InW wr wm.heap.size g cap v
  f : Fr (fun _ => False) wm wr
  n : v.length = 16
theorem Vw.still {wm w w' : World} {g cap : Nat} {v : List W} (h : Vw wm w g cap v) (hF : Fr (fun _ => False) w w') : Vw wm w' g cap v := ⟨h.i.still hF, h.f.trans hF (fun _ _ e => e), h.n⟩
theorem Vw.set {wm w : World} {g cap : Nat} {v : List W} (h : Vw wm w g cap v) {k : Nat} (hk : k < 16) (c : W) : Vw wm (w.setCell ⟨g, k, none⟩ (.int .u32 (uw c))) g cap (v.set k c) := ⟨h.i.set (by rw [h.n]; exact hk) c, h.f.setCell (p := ⟨g, k, none⟩) (Or.inr h.i.hg) _, by rw [List.length_set]; exact h.n⟩
theorem Vw.cell {wm w : World} {g cap : Nat} {v : List W} (h : Vw wm w g cap v) {k : Nat} (hk : k < 16) : w.cell? ⟨g, k, none⟩ = some (.int .u32 (uw (at_ v k))) := h.i.cell k _ (at_get (by rw [h.n]; exact hk))
theorem at_word (h : List W) (k : Nat) : at_ h k = h.getD k 0#32 := rfl

section
variable {ops : Array Oper} {rest : List Oper} {o : Oper} {a : Act} {w : World} {Q : Exit → Act → World → Prop}
/-- Words appended, from wherever they lie. -/
theorem wpList_appW2 (hgd : o.guard = none) (x y : Operand) (ho : o.op = .call { callee := .builtin .append, args := #[x, y], argTypes := #[39, 39] }) (w0 : World) (v : Value) (l : List W) (hx : a.eval x = v) (hv : Wd w0 w v l)
    (ad : Addr) (n cap : Nat) (m : List W) (hy : a.eval y = .slice (some ad) n cap) (hn : n = m.length) (hs : ∀ j u, (ws m)[j]? = some u → w.cell? (ad.add j) = some u) (nn : Nat) (hnn : (l ++ m).length = nn) (hl : nn ≤ 1000000)
    (h : ∀ A' cap' w', Wd w0 w' (.slice A' nn cap') (l ++ m) → wpList Tryd.prog ops Q rest (a.put o.dst (.slice A' nn cap')) w') : wpList Tryd.prog ops Q (o :: rest) a w := by
  obtain ⟨A, c, rfl, h1, h2, h3⟩ := hv
  subst hnn
  refine wpList_appW hgd x y ho w0 _ l hx h1 h2 h3 ad n cap m hy hn hs (by rw [← List.length_append]; exact hl) ?_
  intro A' cap' w' k1 k2 k3
  exact h A' cap' w' ⟨A', cap', rfl, k1, k2, k3⟩
end
theorem Wd.vw {w0 w : World} {A : Option Addr} {n cap : Nat} {l : List W} (h : Wd w0 w (.slice A n cap) l) (hn : n = l.length) (h0 : 0 < n) : ∃ g, A = some ⟨g, 0, none⟩ ∧ InW w w0.heap.size g cap l ∧ Fr (fun _ => False) w0 w := by
  obtain ⟨A2, c2, e, h1, h2, h3⟩ := h
  cases e
  obtain ⟨g, e, hI⟩ := h1.in_ (by omega)
  exact ⟨g, e, hI, h2⟩
theorem InW.rd {w : World} {base g cap : Nat} {l : List W} (h : InW w base g cap l) : RdW w w.heap.size (some ⟨g, 0, none⟩) l := fun _ => ⟨g, 0, rfl, h.lt, fun j x hj => by rw [Nat.zero_add]; exact h.cell j x hj⟩

theorem step_append_at {P : Program} {ops : Array Oper} {o : Oper} {a : Act} {w : World} {K : Act → World → Prop} {Q : Exit → Act → World → Prop} {E : Prop}
    (hg : o.guard = none) (s x : Operand) (t : TypeId) (ho : o.op = .call { callee := .builtin .append, args := #[s, x], argTypes := #[t, t] })
    (base : Nat) (e : TypeId) (i : TypeInfo) (z : Value) (size bytes : Nat) (ht : P.underlying t = some (.slice e)) (hi : P.info? e = some i) (hz : i.zero = some z)
    (hsize : i.size = size) (hby : i.bytes = bytes) (hzs : z.cells.size = size) (hsz : 0 < size)
    (v : Value) (n : Nat) (xs : List Value) (hs : a.eval s = v) (hown : w.ownsRow base e size v n xs)
    (ad : Addr) (m c : Nat) (news : List Value) (hx : a.eval x = .slice (some ad) m c) (hl : news.length = m * size) (hnews : ∀ j u, news[j]? = some u → w.cell? (ad.add j) = some u) (h1 : ∀ u ∈ news, u.oneCell' = true)
    (h63 : n + m ≤ maxLen) (hbytes : (n + m) * bytes ≤ 140737488355328) (hbase : base ≤ w.heap.size)
    (h : ∀ v' w', w'.ownsRow base e size v' (n + m) (xs ++ news) → w.grownBy w' v.ownBlock → (v'.ownBlock = v.ownBlock ∨ v'.ownBlock = some w.heap.size) → K (a.put o.dst v') w') :
    if Region.wanted o (yielded ops a.tmps) = true then Oper.wp P o a w K Q else E := by
  have hw : Region.wanted o (yielded ops a.tmps) = true := by simp [Region.wanted, hg]
  rw [if_pos hw]
  obtain ⟨v', w', hr, h2, h3, _, h5⟩ := run_append_own_at (P := P) w base t o.type e i z size bytes ht hi hz hsize hby hzs hsz v n xs hown ad m c news hl hnews h1 h63 hbytes hbase
  unfold Oper.wp execOp
  simp only [ho, resolve, invoke, builtin, Sem.run_bind, Sem.run_pure, Result.andThen_ok, List.map_toArray, List.map_cons, List.map_nil, hs, hx, hr]
  exact h v' w' h2 h3 h5
/-- One word behind words of the call's own. -/
theorem wd_snoc {w0 w w' : World} {A : Option Addr} {k cap : Nat} {l : List W} {c : W} {v : Value} (h : Wd w0 w (.slice A k cap) l) (hk : k = l.length) (hown : w'.ownsRow w0.heap.size 41 1 v (k + 1) (ws l ++ [.int .u32 (uw c)])) (hg : w.grownBy w' (Value.slice A k cap).ownBlock) : ∃ A' c', v = .slice A' (k + 1) c' ∧ Wd w0 w' (.slice A' (k + 1) c') (l ++ [c]) := by
  subst hk
  obtain ⟨A2, c2, e, h1, h2, h3⟩ := h
  cases e
  have hF2 : Fr (fun _ => False) w0 w' := h2.grown hg (fun k hk => Or.inr (h1.lt k hk).1)
  rw [show ws l ++ [.int .u32 (uw c)] = ws (l ++ [c]) by rw [ws_append]; rfl] at hown
  rcases id hown.2 with ⟨_, h0⟩ | ⟨g, cap', cur, rfl, r⟩
  · omega
  · refine ⟨some ⟨g, 0, none⟩, cap', rfl, some ⟨g, 0, none⟩, cap', ?_, ?_, hF2, by simp⟩
    · rw [List.length_append]; rfl
    · unfold OwnW
      rw [List.length_append]
      exact hown
theorem Wd.row {w0 w : World} {A : Option Addr} {k cap : Nat} {l : List W} (h : Wd w0 w (.slice A k cap) l) (hk : k = l.length) : w.ownsRow w0.heap.size 41 1 (.slice A k cap) k (ws l) := by
  subst hk
  obtain ⟨_, _, e, h1, _⟩ := h
  cases e
  exact h1
theorem Wd.low {w0 wx w : World} {v : Value} {l : List W} (h : Wd wx w v l) (hF : Fr (fun _ => False) w0 wx) : Wd w0 w v l := by
  obtain ⟨A, c, e, h1, h2, h3⟩ := h
  exact ⟨A, c, e, h1.base hF.size, hF.trans h2 (fun _ _ e => e), h3⟩
/-- What a block answers. -/
def BlkR (w : World) (h : List W) (b : Bts) (t : Nat) (last : Bool) : Ending → World → Prop := fun e w' => ∃ A cap, e = .returned (.slice A 8 cap) ∧ Wd w w' (.slice A 8 cap) (blockV h (wordsV b 16) t last)
set_option maxHeartbeats 16000000 in
theorem rblock (w : World) (hg ho : Nat) (hc : Nat) (h : List W) (blk off cap : Nat) (b : Bts) (t : Nat) (last : Bool) (hl : h.length = 8) (hr : RdW w w.heap.size (some ⟨hg, ho, none⟩) h) (hb : b.length = 64) (hbr : Rd w w.heap.size (some ⟨blk, off, none⟩) b) (hcap : 64 ≤ cap) (ht : t ≤ 4611686018427387904) :
    Calls Tryd.prog 24 #[.slice (some ⟨hg, ho, none⟩) 8 hc, .slice (some ⟨blk, off, none⟩) 64 cap, .int .i64 (t : Int), .bool last] w (BlkR w h b t last) := by
  have HI := Lib.hid (⟨hl, hr, hb, hbr, hcap⟩ : _ ∧ _ ∧ _ ∧ _ ∧ _)
  have HN := Lib.hid (wd_new w)
  obtain ⟨i0, hi, hz0, hz1, hz2⟩ := info_parts infoW
  have HI0 := Lib.hid (⟨hi, hz0, hz1, hz2⟩ : _ ∧ _ ∧ _ ∧ _)
  clear hl hr hb hbr hcap hi hz0 hz1 hz2
  go_enter Tryd.func24, Tryd.ntmps24
  go_wp2_with fail
  go_loopw [9, 10] (fun v9 v10 wr => ∃ k : Nat, k ≤ 16 ∧ v10 = .int .i64 k ∧ ∃ A c, v9 = .slice A k c ∧ Hid (Wd w wr (.slice A k c) (wordsV b k))) (fun _ v _ => 16 - (intOf v).toNat)
  case atStart => exact ⟨0, Nat.zero_le _, rfl, _, _, rfl, (show Hid _ from Lib.hid (by have := HN.out; exact this))⟩
  case round =>
    obtain ⟨k, hk, rfl, A, c, rfl, HK⟩ := hrel
    clear HN
    by_cases hlt : k < 16
    · have hsl := cut4 blk off cap k HI.out.2.2.2.2 hlt
      have HW := Lib.hid (rword wr blk (off + 4 * k) w.heap.size (cap - 4 * k) ((b.drop (4 * k)).take 4) (by
        obtain ⟨_, _, _, _, hF, _⟩ := HK.out
        have h1 := ((HI.out.2.2.2.1.still hF (Nat.le_refl _)).drop (k := 4 * k) (cap := 64) (by rw [HI.out.2.2.1]; omega)).take 4
        rw [if_neg (by omega), Option.map_some, add_plain] at h1
        exact h1) (by rw [List.length_take, List.length_drop, HI.out.2.2.1]; omega))
      rw [wordN_part] at HW
      have hk0 : (0 : Int) ≤ (k : Int) := by omega
      have hk16 : (k : Int) < 16 := by omega
      obtain ⟨cw, hcw⟩ : ∃ x, x = BitVec.ofNat 32 (wordN b k) := ⟨_, rfl⟩
      have HCW := Lib.hid hcw
      rw [← hcw] at HW
      clear hcw
      go_wp2_with fail
      refine HW.out.mono ?_
      rintro e w1 ⟨rfl, hC⟩
      have HK1 := Lib.hid (HK.out.still hC.fr)
      clear hC
      go_wp2_with (at_builtin; refine wpList_app1 rfl (.tmp 22) (.tmp 31) rfl w w1 (.slice A k c) (wordsV b k) cw rfl HK1.out rfl rfl (by rw [wordsV_length]; omega) ?_; intro A2 c2 w2 hv2; have H2 := Lib.hid (show Wd w w2 (.slice A2 (k + 1) c2) (wordsV b (k + 1)) from by rw [wordsV_length] at hv2; rw [wordsV_succ, ← HCW.out]; exact hv2); clear hv2; rw [wordsV_length])
      go_roundw
      case rel => exact ⟨k + 1, by omega, by go_num, A2, c2, rfl, H2⟩
      case measure => simp [intOf]; omega
    · obtain rfl : k = 16 := by omega
      obtain ⟨gm, rfl, him, hfm⟩ := HK.out.vw (wordsV_length b 16).symm (by decide)
      obtain ⟨mw, hmw⟩ : ∃ x, x = wordsV b 16 := ⟨_, rfl⟩
      have HM := Lib.hid (show RdW wr wr.heap.size (some ⟨gm, 0, none⟩) mw ∧ mw.length = 16 from by rw [hmw]; exact ⟨him.rd, wordsV_length b 16⟩)
      have HH := Lib.hid (show RdW wr wr.heap.size (some ⟨hg, ho, none⟩) h ∧ h.length = 8 ∧ (h ++ ivL).length = 16 from ⟨fun e => by
        obtain ⟨p, q, e1, e2, e3⟩ := HI.out.2.1.still hfm (Nat.le_refl _) e
        exact ⟨p, q, e1, Nat.lt_of_lt_of_le e2 hfm.size, e3⟩, HI.out.1, by rw [List.length_append, HI.out.1]; rfl⟩)
      have HF := Lib.hid hfm
      have HMW := Lib.hid hmw
      have HN2 := Lib.hid (wd_new wr)
      obtain ⟨wm, hwm⟩ : ∃ x, x = wr := ⟨_, rfl⟩
      rw [← hwm] at HM HH HF HN2 ⊢
      clear him hfm hmw HK HI hwm
      go_wp2_with first
        | (at_builtin; refine wpList_appW2 rfl (.tmp 33) (.tmp 34) rfl wm _ [] rfl HN2.out ⟨hg, ho, none⟩ 8 hc h rfl HH.out.2.1.symm (HH.out.1.still ((Fr.refl _ _).alloc _) (Nat.le_refl _)).src 8 HH.out.2.1 (by omega) ?_; intro A2 c2 w2 hv2; have H2 := Lib.hid (show Wd wm w2 (.slice A2 8 c2) h from hv2); clear hv2)
        | (go_at_call 23; refine (rstart _).mono ?_; rintro e w3 ⟨rfl, rfl⟩)
        | (at_builtin; refine wpList_appW2 rfl (.tmp 35) (.tmp 36) rfl wm _ h rfl (H2.out.still ((Fr.refl _ _).alloc _)) ⟨w2.heap.size, 0, none⟩ 8 8 ivL rfl rfl (World.news_of_block (heap_alloc_new w2 _)) 16 HH.out.2.2 (by omega) ?_; intro A3 c3 w3 hv3; have H3 := Lib.hid hv3; clear hv3)
      obtain ⟨g, rfl, hi3, hf3⟩ := H3.out.vw HH.out.2.2.symm (by decide)
      obtain ⟨v0, hv0⟩ : ∃ x, x = h ++ ivL := ⟨_, rfl⟩
      have HV := Lib.hid (show Vw wm w3 g c3 v0 from by rw [hv0]; exact ⟨hi3, hf3, HH.out.2.2⟩)
      have HV0 := Lib.hid hv0
      obtain ⟨v1, hv1⟩ : ∃ x, x = v0.set 12 (at_ v0 12 ^^^ BitVec.ofNat 32 t) := ⟨_, rfl⟩
      obtain ⟨v2, hv2⟩ : ∃ x, x = v1.set 13 (at_ v1 13 ^^^ BitVec.ofNat 32 (t / 4294967296)) := ⟨_, rfl⟩
      have HV1 := Lib.hid hv1
      have HV2 := Lib.hid hv2
      clear hi3 hf3 H3 H2 hv0 hv1 hv2
      obtain ⟨v3, hv3⟩ : ∃ x, x = if last then v2.set 14 (~~~ at_ v2 14) else v2 := ⟨_, rfl⟩
      have HV3 := Lib.hid hv3
      have HVa := Lib.hid (show Vw wm (w3.setCell ⟨g, 12, none⟩ (.int .u32 (uw (at_ v0 12 ^^^ BitVec.ofNat 32 t)))) g c3 v1 from by rw [HV1.out]; exact HV.out.set (by decide) _)
      have HVb := Lib.hid (show Vw wm ((w3.setCell ⟨g, 12, none⟩ (.int .u32 (uw (at_ v0 12 ^^^ BitVec.ofNat 32 t)))).setCell ⟨g, 13, none⟩ (.int .u32 (uw (at_ v1 13 ^^^ BitVec.ofNat 32 (t / 4294967296))))) g c3 v2 from by rw [HV2.out]; exact HVa.out.set (by decide) _)
      have HB := Lib.hid (show begV h t last = v3 from by rw [HV3.out, HV2.out, HV1.out, HV0.out]; rfl)
      clear hv3
      have c1 := HV.out.cell (k := 12) (by decide)
      have c2 := HVa.out.cell (k := 13) (by decide)
      have c4 := HVb.out.cell (k := 14) (by decide)
      have f1 := HV.out.i.free 12
      have f2 := HVa.out.i.free 13
      have f4 := HVb.out.i.free 14
      have x1 := ixW g c3 12 16 (by decide) 12 rfl
      have s0 : (t : Int) % 4294967296 = uw (BitVec.ofNat 32 t) := by rw [uw_ofNat]; omega
      have s1 := uw_xor (at_ v0 12) (BitVec.ofNat 32 t)
      have s2 : (t : Int) / 4294967296 = uw (BitVec.ofNat 32 (t / 4294967296)) := by rw [uw_ofNat]; omega
      have s3 := uw_xor (at_ v1 13) (BitVec.ofNat 32 (t / 4294967296))
      have s4 : bits .xor .u32 IntKind.u32.max (uw (at_ v2 14)) = uw (~~~ at_ v2 14) := uw_not (at_ v2 14)
      rw [x1]
      cases last
      case' false =>
        go_wp2_with fail
        obtain ⟨wv, hwv⟩ : ∃ x, x = (w3.setCell ⟨g, 12, none⟩ (.int .u32 (uw (at_ v0 12 ^^^ BitVec.ofNat 32 t)))).setCell ⟨g, 13, none⟩ (.int .u32 (uw (at_ v1 13 ^^^ BitVec.ofNat 32 (t / 4294967296)))) := ⟨_, rfl⟩
        have HX := Lib.hid (show Vw wm wv g c3 v3 from by rw [hwv, HV3.out]; exact HVb.out)
      case' true =>
        go_wp2_with fail
        clear h
        obtain ⟨wv, hwv⟩ : ∃ x, x = ((w3.setCell ⟨g, 12, none⟩ (.int .u32 (uw (at_ v0 12 ^^^ BitVec.ofNat 32 t)))).setCell ⟨g, 13, none⟩ (.int .u32 (uw (at_ v1 13 ^^^ BitVec.ofNat 32 (t / 4294967296))))).setCell ⟨g, 14, none⟩ (.int .u32 (uw (~~~ at_ v2 14))) := ⟨_, rfl⟩
        have HX := Lib.hid (show Vw wm wv g c3 v3 from by rw [hwv, HV3.out]; exact HVb.out.set (by decide) _)
      all_goals
        rw [← hwv]
        clear hwv c1 c2 c4 f1 f2 f4 x1 s0 s1 s2 s3 s4 HVa HVb HV HV0 HV1 HV2 HV3
        go_loopw [12] (fun v wr => ∃ k : Nat, k ≤ 10 ∧ v = .int .i64 k ∧ Hid (Vw wm wr g c3 (roundsV mw v3 k))) (fun v _ => 10 - (intOf v).toNat)
        case atStart => exact ⟨0, Nat.zero_le _, rfl, HX⟩
        case round =>
          obtain ⟨r, hr, rfl, HK⟩ := hrel
          clear HX
          by_cases hlt : r < 10
          · obtain ⟨vr, hvr⟩ : ∃ x, x = roundsV mw v3 r := ⟨_, rfl⟩
            have HVR := Lib.hid hvr
            rw [← hvr] at HK
            clear hvr
            have hr10 : (r : Int) < 10 := by omega
            go_wp2_with fail
            go_loopw [13] (fun v wr => ∃ k : Nat, k ≤ 4 ∧ v = .int .i64 k ∧ Hid (Vw wm wr g c3 (colsV mw r vr k))) (fun v _ => 4 - (intOf v).toNat)
            case atStart => exact ⟨0, Nat.zero_le _, rfl, HK⟩
            case round =>
              obtain ⟨k, hk, rfl, HC⟩ := hrel
              clear HK
              by_cases hlt2 : k < 4
              · have hk4 : (k : Int) < 4 := by omega
                obtain ⟨vk, hvk⟩ : ∃ x, x = colsV mw r vr k := ⟨_, rfl⟩
                have HVK := Lib.hid hvk
                rw [← hvk] at HC
                have HR1 := Lib.hid (show Calls Tryd.prog 34 #[.int .i64 (r : Int), .int .i64 (2 * (k : Int))] wr.drew fun e w' => e = .returned (.int .i64 (rwN r (2 * k) : Nat)) ∧ w' = wr.drew from by
                  rw [show (2 * (k : Int)) = ((2 * k : Nat) : Int) by omega]
                  exact (rrow wr.drew r (2 * k) hlt (by omega)).mono fun _ _ ⟨a, c⟩ => ⟨a, c.symm⟩)
                have HR2 := Lib.hid (show Calls Tryd.prog 34 #[.int .i64 (r : Int), .int .i64 (2 * (k : Int) + 1)] wr.drew fun e w' => e = .returned (.int .i64 (rwN r (2 * k + 1) : Nat)) ∧ w' = wr.drew from by
                  rw [show (2 * (k : Int) + 1) = ((2 * k + 1 : Nat) : Int) by omega]
                  exact (rrow wr.drew r (2 * k + 1) hlt (by omega)).mono fun _ _ ⟨a, c⟩ => ⟨a, c.symm⟩)
                obtain ⟨p1, hp1⟩ : ∃ x, x = rwN r (2 * k) := ⟨_, rfl⟩
                obtain ⟨p2, hp2⟩ : ∃ x, x = rwN r (2 * k + 1) := ⟨_, rfl⟩
                have HP := Lib.hid (⟨hp1, hp2⟩ : _ ∧ _)
                have hp16 : (p1 : Int) < 16 := by have := rwN_lt r (2 * k); omega
                have hq16 : (p2 : Int) < 16 := by have := rwN_lt r (2 * k + 1); omega
                rw [← hp1] at HR1
                rw [← hp2] at HR2
                have HML := Lib.hid (HM.out.1.still HC.out.f (Nat.le_refl _))
                have d1 : wr.drew.cell? ⟨gm, p1, none⟩ = some (.int .u32 (uw (at_ mw p1))) := by
                  obtain ⟨_, _, e, _, hc⟩ := HML.out (by intro e; have := HM.out.2; rw [e] at this; cases this)
                  cases e
                  have := hc p1 _ (at_get (by have := HM.out.2; omega))
                  rw [Nat.zero_add] at this
                  exact this
                have d2 : wr.drew.cell? ⟨gm, p2, none⟩ = some (.int .u32 (uw (at_ mw p2))) := by
                  obtain ⟨_, _, e, _, hc⟩ := HML.out (by intro e; have := HM.out.2; rw [e] at this; cases this)
                  cases e
                  have := hc p2 _ (at_get (by have := HM.out.2; omega))
                  rw [Nat.zero_add] at this
                  exact this
                have HMX := Lib.hid (show Calls Tryd.prog 33 #[.slice (some ⟨g, 0, none⟩) 16 c3, .int .i64 (k : Int), .int .i64 (4 + (k : Int)), .int .i64 (8 + (k : Int)), .int .i64 (12 + (k : Int)), .int .u32 (uw (at_ mw p1)), .int .u32 (uw (at_ mw p2))] wr.drew fun e w' => e = .returned (.tuple #[]) ∧ Vw wm w' g c3 (colsV mw r vr (k + 1)) from by
                  have h := rmixing wm wr.drew g c3 vk HC.out.n (HC.out.i.still ((Fr.refl _ _).drew)) HC.out.f.drew k (4 + k) (8 + k) (12 + k) (by omega) (by omega) (by omega) (by omega) (at_ mw p1) (at_ mw p2)
                  simp only [Int.natCast_add, Int.cast_ofNat_Int] at h
                  refine h.mono ?_
                  rintro e w' ⟨h1, h2, h3⟩
                  have hv : colsV mw r vr (k + 1) = mixV vk k (4 + k) (8 + k) (12 + k) (at_ mw p1) (at_ mw p2) := by rw [colsV_succ, ← hvk, hp1, hp2]; rfl
                  exact ⟨h1, by rw [hv]; exact h2, h3, by rw [hv, mixV_length]; exact HC.out.n⟩)
                clear hp1 hp2 hvk HML
                have q0 : IntKind.i64.wrap (2 * (k : Int)) = 2 * (k : Int) := IntWalk.i64_in _ ⟨by omega, by omega⟩
                have q1 : IntKind.i64.wrap (2 * (k : Int) + 1) = 2 * (k : Int) + 1 := IntWalk.i64_in _ ⟨by omega, by omega⟩
                have q2 : IntKind.i64.wrap (4 + (k : Int)) = 4 + (k : Int) := IntWalk.i64_in _ ⟨by omega, by omega⟩
                have q3 : IntKind.i64.wrap (8 + (k : Int)) = 8 + (k : Int) := IntWalk.i64_in _ ⟨by omega, by omega⟩
                have q4 : IntKind.i64.wrap (12 + (k : Int)) = 12 + (k : Int) := IntWalk.i64_in _ ⟨by omega, by omega⟩
                go_wp2_with fail
                refine wp_region_still_tail 23 (by kernel_rfl) (by kernel_rfl) ?_
                simp only [List.take_succ_cons, List.take_zero, List.drop_succ_cons, List.drop_zero]
                repeat still_step
                still_call HR1.out
                repeat still_step
                still_call HR2.out
                repeat still_step
                refine wpStill_nil ?_
                change wpList _ _ _ _ _ wr.drew
                clear d1 d2 HR1 HR2 q0 q1 q2 q3 q4
                go_wp2_with fail
                refine HMX.out.mono ?_
                rintro e w5 ⟨rfl, hv5⟩
                have H5 := Lib.hid hv5
                clear hv5 HMX
                go_wp2_with fail
                go_roundw
                case rel => exact ⟨k + 1, by omega, by go_num, H5⟩
                case measure => simp [intOf]; omega
              · have hke := Lib.hid (show k = 4 by omega)
                rw [hke.out] at HC
                have hnk : ¬ ((k : Int) < 4) := by omega
                obtain ⟨vs, hvs⟩ : ∃ x, x = colsV mw r vr 4 := ⟨_, rfl⟩
                have HVS := Lib.hid hvs
                rw [← hvs] at HC
                clear hvs
                have HK := HC
                go_wp2_with fail
                go_loopw [14] (fun v wr => ∃ k : Nat, k ≤ 4 ∧ v = .int .i64 k ∧ Hid (Vw wm wr g c3 (diasV mw r vs k))) (fun v _ => 4 - (intOf v).toNat)
                case atStart => exact ⟨0, Nat.zero_le _, rfl, HK⟩
                case round =>
                  obtain ⟨k, hk, rfl, HC⟩ := hrel
                  clear HK
                  by_cases hlt2 : k < 4
                  · have hk4 : (k : Int) < 4 := by omega
                    obtain ⟨vk, hvk⟩ : ∃ x, x = diasV mw r vs k := ⟨_, rfl⟩
                    have HVK := Lib.hid hvk
                    rw [← hvk] at HC
                    have HR1 := Lib.hid (show Calls Tryd.prog 34 #[.int .i64 (r : Int), .int .i64 (8 + 2 * (k : Int))] wr.drew fun e w' => e = .returned (.int .i64 (rwN r (8 + 2 * k) : Nat)) ∧ w' = wr.drew from by
                      rw [show (8 + 2 * (k : Int)) = ((8 + 2 * k : Nat) : Int) by omega]
                      exact (rrow wr.drew r (8 + 2 * k) hlt (by omega)).mono fun _ _ ⟨a, c⟩ => ⟨a, c.symm⟩)
                    have HR2 := Lib.hid (show Calls Tryd.prog 34 #[.int .i64 (r : Int), .int .i64 (9 + 2 * (k : Int))] wr.drew fun e w' => e = .returned (.int .i64 (rwN r (9 + 2 * k) : Nat)) ∧ w' = wr.drew from by
                      rw [show (9 + 2 * (k : Int)) = ((9 + 2 * k : Nat) : Int) by omega]
                      exact (rrow wr.drew r (9 + 2 * k) hlt (by omega)).mono fun _ _ ⟨a, c⟩ => ⟨a, c.symm⟩)
                    obtain ⟨p1, hp1⟩ : ∃ x, x = rwN r (8 + 2 * k) := ⟨_, rfl⟩
                    obtain ⟨p2, hp2⟩ : ∃ x, x = rwN r (9 + 2 * k) := ⟨_, rfl⟩
                    have HP := Lib.hid (⟨hp1, hp2⟩ : _ ∧ _)
                    have hp16 : (p1 : Int) < 16 := by have := rwN_lt r (8 + 2 * k); omega
                    have hq16 : (p2 : Int) < 16 := by have := rwN_lt r (9 + 2 * k); omega
                    rw [← hp1] at HR1
                    rw [← hp2] at HR2
                    have HML := Lib.hid (HM.out.1.still HC.out.f (Nat.le_refl _))
                    have d1 : wr.drew.cell? ⟨gm, p1, none⟩ = some (.int .u32 (uw (at_ mw p1))) := by
                      obtain ⟨_, _, e, _, hc⟩ := HML.out (by intro e; have := HM.out.2; rw [e] at this; cases this)
                      cases e
                      have := hc p1 _ (at_get (by have := HM.out.2; omega))
                      rw [Nat.zero_add] at this
                      exact this
                    have d2 : wr.drew.cell? ⟨gm, p2, none⟩ = some (.int .u32 (uw (at_ mw p2))) := by
                      obtain ⟨_, _, e, _, hc⟩ := HML.out (by intro e; have := HM.out.2; rw [e] at this; cases this)
                      cases e
                      have := hc p2 _ (at_get (by have := HM.out.2; omega))
                      rw [Nat.zero_add] at this
                      exact this
                    have HMX := Lib.hid (show Calls Tryd.prog 33 #[.slice (some ⟨g, 0, none⟩) 16 c3, .int .i64 (k : Int), .int .i64 (4 + ((k : Int) + 1) % 4), .int .i64 (8 + ((k : Int) + 2) % 4), .int .i64 (12 + ((k : Int) + 3) % 4), .int .u32 (uw (at_ mw p1)), .int .u32 (uw (at_ mw p2))] wr.drew fun e w' => e = .returned (.tuple #[]) ∧ Vw wm w' g c3 (diasV mw r vs (k + 1)) from by
                      have h := rmixing wm wr.drew g c3 vk HC.out.n (HC.out.i.still ((Fr.refl _ _).drew)) HC.out.f.drew k (4 + (k + 1) % 4) (8 + (k + 2) % 4) (12 + (k + 3) % 4) (by omega) (by omega) (by omega) (by omega) (at_ mw p1) (at_ mw p2)
                      simp only [Int.natCast_add, Int.natCast_emod, Int.cast_ofNat_Int] at h
                      refine h.mono ?_
                      rintro e w' ⟨h1, h2, h3⟩
                      have hv : diasV mw r vs (k + 1) = mixV vk k (4 + (k + 1) % 4) (8 + (k + 2) % 4) (12 + (k + 3) % 4) (at_ mw p1) (at_ mw p2) := by rw [diasV_succ, ← hvk, hp1, hp2]; rfl
                      exact ⟨h1, by rw [hv]; exact h2, h3, by rw [hv, mixV_length]; exact HC.out.n⟩)
                    clear hp1 hp2 hvk HML
                    have q0 : IntKind.i64.wrap (2 * (k : Int)) = 2 * (k : Int) := IntWalk.i64_in _ ⟨by omega, by omega⟩
                    have q1 : IntKind.i64.wrap (8 + 2 * (k : Int)) = 8 + 2 * (k : Int) := IntWalk.i64_in _ ⟨by omega, by omega⟩
                    have q2 : IntKind.i64.wrap (9 + 2 * (k : Int)) = 9 + 2 * (k : Int) := IntWalk.i64_in _ ⟨by omega, by omega⟩
                    have q3 : IntKind.i64.wrap ((k : Int) + 1) = (k : Int) + 1 := IntWalk.i64_in _ ⟨by omega, by omega⟩
                    have q4 : IntKind.i64.wrap ((k : Int) + 2) = (k : Int) + 2 := IntWalk.i64_in _ ⟨by omega, by omega⟩
                    have q5 : IntKind.i64.wrap ((k : Int) + 3) = (k : Int) + 3 := IntWalk.i64_in _ ⟨by omega, by omega⟩
                    have q6 : IntKind.i64.wrap (((k : Int) + 1) % 4) = ((k : Int) + 1) % 4 := IntWalk.i64_in _ ⟨by omega, by omega⟩
                    have q7 : IntKind.i64.wrap (((k : Int) + 2) % 4) = ((k : Int) + 2) % 4 := IntWalk.i64_in _ ⟨by omega, by omega⟩
                    have q8 : IntKind.i64.wrap (((k : Int) + 3) % 4) = ((k : Int) + 3) % 4 := IntWalk.i64_in _ ⟨by omega, by omega⟩
                    have q9 : IntKind.i64.wrap (4 + ((k : Int) + 1) % 4) = 4 + ((k : Int) + 1) % 4 := IntWalk.i64_in _ ⟨by omega, by omega⟩
                    have q10 : IntKind.i64.wrap (8 + ((k : Int) + 2) % 4) = 8 + ((k : Int) + 2) % 4 := IntWalk.i64_in _ ⟨by omega, by omega⟩
                    have q11 : IntKind.i64.wrap (12 + ((k : Int) + 3) % 4) = 12 + ((k : Int) + 3) % 4 := IntWalk.i64_in _ ⟨by omega, by omega⟩
                    go_wp2_with fail
                    refine wp_region_still_tail 30 (by kernel_rfl) (by kernel_rfl) ?_
                    simp only [List.take_succ_cons, List.take_zero, List.drop_succ_cons, List.drop_zero]
                    repeat still_step
                    still_call HR1.out
                    repeat still_step
                    still_call HR2.out
                    repeat still_step
                    refine wpStill_nil ?_
                    change wpList _ _ _ _ _ wr.drew
                    clear d1 d2 HR1 HR2 q0 q1 q2 q3 q4 q5 q6 q7 q8 q9 q10 q11
                    go_wp2_with fail
                    refine HMX.out.mono ?_
                    rintro e w5 ⟨rfl, hv5⟩
                    have H5 := Lib.hid hv5
                    clear hv5 HMX
                    go_wp2_with fail
                    go_roundw
                    case rel => exact ⟨k + 1, by omega, by go_num, H5⟩
                    case measure => simp [intOf]; omega
                  · have hke := Lib.hid (show k = 4 by omega)
                    rw [hke.out] at HC
                    have hnk : ¬ ((k : Int) < 4) := by omega
                    have HD := Lib.hid (show Vw wm wr g c3 (roundsV mw v3 (r + 1)) from by rw [roundsV_succ, ← HVR.out]; unfold roundV; rw [← HVS.out]; exact HC.out)
                    go_wp2_with fail
                    go_roundw
                    case rel => exact ⟨r + 1, by omega, by go_num, HD⟩
                    case measure => simp [intOf]; omega
          · have hre := Lib.hid (show r = 10 by omega)
            rw [hre.out] at HK
            have hnr : ¬ ((r : Int) < 10) := by omega
            obtain ⟨vn, hvn⟩ : ∃ x, x = roundsV mw v3 10 := ⟨_, rfl⟩
            have HVN := Lib.hid hvn
            rw [← hvn] at HK
            clear hvn
            obtain ⟨wx, hwx⟩ : ∃ x, x = wr := ⟨_, rfl⟩
            rw [← hwx] at HK ⊢
            clear hwx
            have HNX := Lib.hid (wd_new wx)
            go_wp2_with fail
            go_loopw [15, 16] (fun v15 v16 wr => ∃ k : Nat, k ≤ 8 ∧ v16 = .int .i64 k ∧ ∃ A c, v15 = .slice A k c ∧ Hid (Wd wx wr (.slice A k c) (endV h vn k))) (fun _ v _ => 8 - (intOf v).toNat)
            case atStart => exact ⟨0, Nat.zero_le _, rfl, _, _, rfl, HNX⟩
            case round =>
              obtain ⟨k, hk, rfl, A5, c5, rfl, HE⟩ := hrel
              clear HNX
              by_cases hlt8 : k < 8
              · have hk8 : (k : Int) < 8 := by omega
                have hk16 : (k : Int) < 16 := by omega
                have hfx : Fr (fun _ => False) wx wr := by obtain ⟨_, _, _, _, h, _⟩ := HE.out; exact h
                have hV := HK.out.still hfx
                have e1 : wr.drew.cell? ⟨hg, ho + k, none⟩ = some (.int .u32 (uw (at_ h k))) := by
                  obtain ⟨_, _, e, _, hc⟩ := (HH.out.1.still hV.f (Nat.le_refl _)) (by intro e; have := HH.out.2.1; rw [e] at this; cases this)
                  cases e
                  exact hc k _ (at_get (by have := HH.out.2.1; omega))
                have e2 : wr.drew.cell? ⟨g, k, none⟩ = some (.int .u32 (uw (at_ vn k))) := hV.cell (by omega)
                have e3 : wr.drew.cell? ⟨g, k + 8, none⟩ = some (.int .u32 (uw (at_ vn (k + 8)))) := hV.cell (by omega)
                have x2 := ixW g c3 k 16 (by omega) (k : Int) rfl
                have x3 := ixW g c3 (k + 8) 16 (by omega) ((k : Int) + 8) (by omega)
                have q1 : IntKind.i64.wrap ((k : Int) + 8) = (k : Int) + 8 := IntWalk.i64_in _ ⟨by omega, by omega⟩
                have s1 := uw_xor (at_ h k) (at_ vn k)
                have s2 := uw_xor (at_ h k ^^^ at_ vn k) (at_ vn (k + 8))
                obtain ⟨cw, hcw⟩ : ∃ x, x = at_ h k ^^^ at_ vn k ^^^ at_ vn (k + 8) := ⟨_, rfl⟩
                have HCW := Lib.hid hcw
                rw [← hcw] at s2
                have HDD := Lib.hid (HE.out.still (((Fr.refl _ wr).alloc (.cells #[.int .u32 (uw cw)] 41)).drew))
                have HROW := Lib.hid (show ((wr.alloc (.cells #[.int .u32 (uw cw)] 41)).drew).ownsRow wx.heap.size 41 1 (.slice A5 k c5) k (ws (endV h vn k)) from by
                  exact HDD.out.row (endV_length h vn k).symm)
                have HSZ := Lib.hid hfx.size
                clear hfx hV hcw
                go_wp2_with fail
                go_region_law (refine step_append_at (by rfl) (.tmp 134) (.tmp 150) 39 (by rfl) wx.heap.size 41 i0 (.int .u32 0) 1 4 Tryd.underlying39 HI0.out.1 HI0.out.2.1 HI0.out.2.2.1 HI0.out.2.2.2 rfl (by omega) _ k (ws (endV h vn k)) (by rfl) HROW.out _ 1 1 [.int .u32 (uw cw)] (by rfl) (by rfl) (cell_one_new _ _ _) (by simp [Value.oneCell']) (by unfold maxLen; omega) (by omega) (Nat.le_trans HSZ.out ((Fr.refl (fun _ => False) wr).alloc _).drew.size) ?_; intro v6 w6 hown hg6 hat; obtain ⟨A6, c6, hv, h6⟩ := wd_snoc (c := cw) HDD.out (endV_length h vn k).symm hown hg6; subst hv; clear hown hg6 hat)
                all_goals
                  have H6 := Lib.hid (show Wd wx w6 (.slice A6 (k + 1) c6) (endV h vn (k + 1)) from by rw [endV_succ, ← HCW.out]; exact h6)
                  clear e1 e2 e3 x2 x3 q1 s1 s2 h6
                  go_wp2_with fail
                  go_roundw
                  case rel => exact ⟨k + 1, by omega, by go_num, A6, c6, rfl, H6⟩
                  case measure => simp [intOf]; omega
              · obtain rfl : k = 8 := by omega
                go_wp2_with fail
                go_ret
                refine ⟨A5, c5, rfl, ?_⟩
                have hB : ∀ l, begV h t l = v3 → endV h vn 8 = blockV h (wordsV b 16) t l := fun l e => by rw [HVN.out, ← e, HMW.out]; rfl
                rw [← hB _ HB.out]
                exact HE.out.low (HF.out.trans HK.out.f (fun _ _ e => e))
end Go.Proofs.YtoikgnmhnlcbhaaDoor.dg
