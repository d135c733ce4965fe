/-
  The program's hold: a header by the words that hold for it.
-/
import Derived.Test.YtgimiggffpokpaaGreatDoorTeE
import Derived.Test.YtgimiggffpokpaaGreatDoorJB
namespace Go.Proofs.YtgimiggffpokpaaGreatDoor.ta
set_option maxRecDepth 100000
open Go.RowKit Go.Maps Go.Deep
open Go.Proofs.YtgimiggffpokpaaGreatDoor.pt (Tx tx tx_toL tx_size toL toL_len ss ss_append ss_length OwnS RdS)
open Go.Proofs.YtgimiggffpokpaaGreatDoor.he (Bts Hd hdV sV five_set five_fr noRec)
set_option maxRecDepth 100000

abbrev hdC (h : Hd) : Obj := .cells #[sV h.name, sV h.link, .int .i64 h.mode, .int .i64 h.size, .int .u8 (h.kind.toNat : Int)] 57
theorem results_hold {fn : Func} {p : Tmp} (h : fn.results = #[.cell p 57]) (tmps : Array Value) (w : World) (g : Nat) (cs : Array Value) (hs : cs.size = 5)
    (hp : tmps.getD p undef = .pointer (some ⟨g, 0, none⟩)) (hg : w.heap[g]? = some (.cells cs 57 (0, 0))) :
    (results fn tmps).run Tryz.prog w = .ok (.agg cs) w := by
  have hp' : tmps[p]?.getD undef = .pointer (some ⟨g, 0, none⟩) := by simpa using hp
  have hr := run_loadVar_row (P := Tryz.prog) w g 57 57 cs (0, 0) _ hg Tryz.underlying57 rfl (by rw [hs]; kernel_rfl)
  simp [results, h, hp', asAddr, hr]
theorem five_cells {w : World} {g : Nat} {a0 a1 a2 a3 a4 : Value} {T : TypeId} (h : w.heap[g]? = some (.cells #[a0, a1, a2, a3, a4] T (0, 0))) : w.cell? ⟨g, 0, none⟩ = some a0 ∧ w.cell? ⟨g, 1, none⟩ = some a1 ∧ w.cell? ⟨g, 2, none⟩ = some a2 ∧ w.cell? ⟨g, 3, none⟩ = some a3 ∧ w.cell? ⟨g, 4, none⟩ = some a4 ∧ w.frozen? ⟨g, 0, none⟩ = false ∧ w.frozen? ⟨g, 1, none⟩ = false ∧ w.frozen? ⟨g, 2, none⟩ = false ∧ w.frozen? ⟨g, 3, none⟩ = false ∧ w.frozen? ⟨g, 4, none⟩ = false :=
  ⟨(cellAt h 0).trans rfl, (cellAt h 1).trans rfl, (cellAt h 2).trans rfl, (cellAt h 3).trans rfl, (cellAt h 4).trans rfl, freeAt h 0, freeAt h 1, freeAt h 2, freeAt h 3, freeAt h 4⟩
/-- Where hold stands: the header as it is by i words. -/
structure HoI (w wr : World) (g : Nat) (h : Hd) (L : List Tx) (i : Nat) (x : Hd) : Prop where
  blk : wr.heap[g]? = some (hdC x)
  res : wr.heap[g + 1]? = some noRec
  eq : holdF h L = holdF x (L.drop i)
  par : i % 2 = 0
  fr : Fr (fun _ => False) w wr
theorem HoI.step {w wr w2 : World} {g : Nat} {h x y : Hd} {L : List Tx} {i : Nat} {k v : Tx} (H : HoI w wr g h L i x) (hk : L[i]? = some k) (hv : L[i + 1]? = some v) (hb : w2.heap[g]? = some (hdC y)) (hr : w2.heap[g + 1]? = some noRec) (hF2 : Fr (fun _ => False) w w2) (hy : y = holdS x k v) : HoI w w2 g h L (i + 2) y :=
  ⟨hb, hr, by rw [H.eq, hold_drop x L hk hv, hy], by have := H.par; omega, hF2⟩
/-- What hold answers and leaves. -/
def HoA (w : World) (R : Nat) (x2 x3 : Value) (h : Hd) (L : List Tx) (e : Ending) (w' : World) : Prop :=
  e = .returned (hdV (holdF h L)) ∧ Fr (fun i => i = R) w w' ∧ w'.heap[R]? = some (rdC (.slice none 0 0) (.bool false) x2 x3)
set_option maxHeartbeats 16000000 in
theorem phold (w : World) (R : Nat) (A : Option Addr) (c : Nat) (L : List Tx) (x1 x2 x3 : Value) (hb : w.heap[R]? = some (rdC (.slice A L.length c) x1 x2 x3)) (hr : RdS w w.heap.size A L) (hL : L.length ≤ 1048576) (hLL : ∀ x ∈ L, x.length ≤ 1048576) (hpar : L.length % 2 = 0) (h : Hd) :
    Calls Tryz.prog 31 #[.pointer (some ⟨R, 0, none⟩), hdV h] w (HoA w R x2 x3 h L) := by
  obtain ⟨n, hn⟩ : ∃ n, n = L.length := ⟨_, rfl⟩
  have hRlt : R < w.heap.size := (Array.getElem?_eq_some_iff.1 hb).1
  have hs0 : HoI w ((w.alloc (hdC h)).alloc noRec) w.heap.size h L 0 h := ⟨heap_alloc_keep (heap_alloc_new w _), by have := heap_alloc_new (w.alloc (hdC h)) noRec; rw [World.size_alloc] at this; exact this, by rw [List.drop_zero], rfl, ((Fr.refl _ w).alloc _).alloc _⟩
  obtain ⟨y0, hy0⟩ : ∃ y, y = sV h.name := ⟨_, rfl⟩
  obtain ⟨y1, hy1⟩ : ∃ y, y = sV h.link := ⟨_, rfl⟩
  obtain ⟨y2, hy2⟩ : ∃ y, y = h.mode := ⟨_, rfl⟩
  obtain ⟨y3, hy3⟩ : ∃ y, y = h.size := ⟨_, rfl⟩
  obtain ⟨y4, hy4⟩ : ∃ y, y = (h.kind.toNat : Int) := ⟨_, rfl⟩
  have HS := Lib.hid hs0
  rw [show hdC h = .cells #[y0, y1, .int .i64 y2, .int .i64 y3, .int .u8 y4] 57 from by rw [hy0, hy1, hy2, hy3, hy4]] at HS
  rw [show hdV h = .agg #[y0, y1, .int .i64 y2, .int .i64 y3, .int .u8 y4] from by rw [hy0, hy1, hy2, hy3, hy4]]
  have HX := Lib.hid (⟨hb, hr, hL, hLL, hpar, hn, hRlt⟩ : _ ∧ _ ∧ _ ∧ _ ∧ _ ∧ _ ∧ _)
  obtain ⟨B, hB⟩ : ∃ B, B = w.heap.size := ⟨_, rfl⟩
  obtain ⟨B1, hB1⟩ : ∃ B1, B1 = w.heap.size + 1 := ⟨_, rfl⟩
  have HBB := Lib.hid (⟨hB, hB1⟩ : _ ∧ _)
  have hn6 : n ≤ 1048576 := by omega
  obtain ⟨V, hV⟩ : ∃ V, V = (w.alloc (.cells #[y0, y1, .int .i64 y2, .int .i64 y3, .int .u8 y4] 57)).alloc noRec := ⟨_, rfl⟩
  rw [← hV, ← hB] at HS
  have HV := Lib.hid hV
  clear hb hr hL hLL hpar hn hRlt hs0 hB hB1 hV hy0 hy1 hy2 hy3 hy4
  go_enter Tryz.func31, Tryz.ntmps31
  go_wp2_with fail
  rw [← HV.out, ← HBB.out.2, ← HBB.out.1]
  go_loopw [5, 6, 31, 35, 39] (fun v5 _ _ _ _ wr => ∃ i : Nat, i ≤ n ∧ v5 = .int .i64 (i : Int) ∧ Hid (∃ x, HoI w wr B h L i x)) (fun v _ _ _ _ _ => n - (intOf v).toNat)
  case atStart => exact ⟨0, Nat.zero_le _, rfl, (show Hid _ from Lib.hid ⟨h, HS.out⟩)⟩
  case round =>
    obtain ⟨i, hi, rfl, HK⟩ := hrel
    obtain ⟨x, hH⟩ := HK.out
    obtain ⟨hb, hr, hL, hLL, hpar, hn, hRlt⟩ := HX.out
    have hbr := keep_blk hb hH.fr
    rw [← hn] at hbr
    obtain ⟨a0, a1, a2, a3, f0, f1, f2, f3⟩ := rd_cells hbr
    clear HK HS a2 a3 f2 f3
    by_cases hlt : i < n
    · obtain ⟨i1, hi1⟩ : ∃ i1, i1 = i + 1 := ⟨_, rfl⟩
      have hip := hH.par
      have hlt1 : i1 < n := by omega
      obtain ⟨k, hk⟩ : ∃ k, L[i]? = some k := ⟨_, List.getElem?_eq_getElem (by omega)⟩
      obtain ⟨v, hv⟩ : ∃ v, L[i1]? = some v := ⟨_, List.getElem?_eq_getElem (by omega)⟩
      have hrd := hr.still hH.fr (Nat.le_refl _)
      obtain ⟨gb, go, rfl, hgb, hck⟩ := hrd.at_ hk
      obtain ⟨_, _, e2, _, hcv⟩ := hrd.at_ hv
      cases e2
      have hvl := hLL v (List.mem_of_getElem? hv)
      have HS := Lib.hid (psizeOf wr (tx v) (by rw [tx_size]; unfold maxLen; omega))
      rw [tx_toL] at HS
      have hi1w : IntKind.i64.wrap ((i : Int) + 1) = (i1 : Int) := by rw [IntWalk.i64_in _ (by omega)]; omega
      have hi2w : IntKind.i64.wrap ((i : Int) + 2) = ((i + 2 : Nat) : Int) := by rw [IntWalk.i64_in _ (by omega)]; omega
      have k1 : (0 : Int) ≤ (i1 : Int) := by omega
      have k2 : (i1 : Int) < (n : Int) := by omega
      have k3 : (0 : Int) ≤ (i : Int) := by omega
      have k4 : (i : Int) < (n : Int) := by omega
      obtain ⟨Z, hZ⟩ : ∃ Z, Z = (((Go.Proofs.YtgimiggffpokpaaGreatDoor.vr.wholeV v 9).getD 0 : Nat) : Int) := ⟨_, rfl⟩
      obtain ⟨sb, hsb⟩ : ∃ sb, sb = sizeB v := ⟨_, rfl⟩
      have HZ := Lib.hid (show sizR v = .tuple #[.int .i64 Z, .bool sb] from by rw [hZ, hsb]; rfl)
      rw [HZ.out] at HS
      obtain ⟨T, hT⟩ : ∃ T, T = tx k := ⟨_, rfl⟩
      obtain ⟨U, hU⟩ : ∃ U, U = tx v := ⟨_, rfl⟩
      have hTk : T.toList = k := by rw [hT, tx_toL]
      rw [← hT] at hck
      rw [← hU] at hcv HS
      have hv' : L[i + 1]? = some v := by rw [← hi1]; exact hv
      have hble := hH.blk
      obtain ⟨c0, c1, c2, c3, c4, g0, g1, g2, g3, g4⟩ := five_cells hble
      have HW := Lib.hid (⟨hH, hk, hv', hi1, hU, hZ⟩ : HoI w wr B h L i x ∧ L[i]? = some k ∧ L[i + 1]? = some v ∧ i1 = i + 1 ∧ U = tx v ∧ Z = (((Go.Proofs.YtgimiggffpokpaaGreatDoor.vr.wholeV v 9).getD 0 : Nat) : Int))
      clear hH hb hr hL hLL hpar hn hRlt hk hv hv' hrd hvl HZ hZ hsb hT hU hi1 hgb c2 c4 g2 g4 hble hip hbr
      by_cases e1 : k = kPath
      · obtain rfl : T = ⟨#[112, 97, 116, 104]⟩ := by rw [← pt.tx_of T, hTk, e1]; rfl
        have HN := Lib.hid (show HoI w (wr.setCell ⟨B, 0, none⟩ (.string U)) B h L (i + 2) { x with name := v } from by
          obtain ⟨hH, hk, hv', _, hU, _⟩ := HW.out
          have h1 : B ≠ B + 1 := by omega
          refine hH.step hk hv' ?_ ?_ (hH.fr.setCell (p := ⟨B, 0, none⟩) (Or.inr (by have := HBB.out.1; show w.heap.size ≤ B; omega)) _) (by unfold holdS; rw [if_pos e1])
          · rw [hU]; exact rd_set hH.blk 0 _
          · rw [Below.heap_setCell _ _ _ _ (Ne.symm h1)]; exact hH.res)
        clear e1 hTk
        go_wp2_with fail
        go_roundw
        case rel => exact ⟨i + 2, by have := HW.out.2.2.2.1; omega, by go_num, (show Hid _ from Lib.hid ⟨_, HN.out⟩)⟩
        case measure => simp [intOf]; omega
      have q1 : (T.toList == [112, 97, 116, 104]) = false := beq_eq_false_iff_ne.2 (by rw [hTk]; exact e1)
      by_cases e2 : k = kLink
      · obtain rfl : T = ⟨#[108, 105, 110, 107, 112, 97, 116, 104]⟩ := by rw [← pt.tx_of T, hTk, e2]; rfl
        have HN := Lib.hid (show HoI w (wr.setCell ⟨B, 1, none⟩ (.string U)) B h L (i + 2) { x with link := v } from by
          obtain ⟨hH, hk, hv', _, hU, _⟩ := HW.out
          have h1 : B ≠ B + 1 := by omega
          refine hH.step hk hv' ?_ ?_ (hH.fr.setCell (p := ⟨B, 1, none⟩) (Or.inr (by have := HBB.out.1; show w.heap.size ≤ B; omega)) _) (by unfold holdS; rw [if_neg e1, if_pos e2])
          · rw [hU]; exact rd_set hH.blk 1 _
          · rw [Below.heap_setCell _ _ _ _ (Ne.symm h1)]; exact hH.res)
        clear e1 e2 hTk
        go_wp2_with fail
        go_roundw
        case rel => exact ⟨i + 2, by have := HW.out.2.2.2.1; omega, by go_num, (show Hid _ from Lib.hid ⟨_, HN.out⟩)⟩
        case measure => simp [intOf]; omega
      have q2 : (T.toList == [108, 105, 110, 107, 112, 97, 116, 104]) = false := beq_eq_false_iff_ne.2 (by rw [hTk]; exact e2)
      by_cases e3 : k = kSize
      · obtain rfl : T = ⟨#[115, 105, 122, 101]⟩ := by rw [← pt.tx_of T, hTk, e3]; rfl
        have HN := Lib.hid (fun w2 (hF2 : Fr (fun _ => False) wr w2) => (show HoI w (w2.setCell ⟨B, 3, none⟩ (.int .i64 Z)) B h L (i + 2) { x with size := Z } from by
          obtain ⟨hH, hk, hv', _, hU, hZ⟩ := HW.out
          have h1 : B ≠ B + 1 := by omega
          refine hH.step hk hv' ?_ ?_ ((hH.fr.trans hF2 (fun _ _ e => e)).setCell (p := ⟨B, 3, none⟩) (Or.inr (by have := HBB.out.1; show w.heap.size ≤ B; omega)) _) (by unfold holdS; rw [if_neg e1, if_neg e2, if_pos e3, hZ])
          · exact rd_set (keep_blk hH.blk hF2) 3 _
          · rw [Below.heap_setCell _ _ _ _ (Ne.symm h1)]; exact keep_blk hH.res hF2))
        clear e1 e2 e3 hTk q1 q2
        go_wp2_with fail
        refine HS.out.mono ?_
        rintro e w2 ⟨rfl, hF2⟩
        have HN := Lib.hid (HN.out w2 hF2)
        obtain ⟨_, _, _, d3, _, _, _, _, p3, _⟩ := five_cells (keep_blk HW.out.1.blk hF2)
        clear hF2
        go_wp2_with fail
        go_roundw
        case rel => exact ⟨i + 2, by have := HW.out.2.2.2.1; omega, by go_num, (show Hid _ from Lib.hid ⟨_, HN.out⟩)⟩
        case measure => simp [intOf]; omega
      · have q3 : (T.toList == [115, 105, 122, 101]) = false := beq_eq_false_iff_ne.2 (by rw [hTk]; exact e3)
        have HN := Lib.hid (show HoI w wr B h L (i + 2) x from HW.out.1.step HW.out.2.1 HW.out.2.2.1 HW.out.1.blk HW.out.1.res HW.out.1.fr (by unfold holdS; rw [if_neg e1, if_neg e2, if_neg e3]))
        clear e1 e2 e3 hTk
        go_wp2_with fail
        go_roundw
        case rel => exact ⟨i + 2, by have := HW.out.2.2.2.1; omega, by go_num, (show Hid _ from Lib.hid ⟨_, HN.out⟩)⟩
        case measure => simp [intOf]; omega
    · have hin : i = n := by omega
      have hx : x = holdF h L := by
        have := hH.eq
        rw [hin, hn, List.drop_of_length_le (Nat.le_refl _)] at this
        exact this.symm
      subst hin
      have hRB : R ≠ B := by have := HBB.out.1; omega
      have hRB1 : R ≠ B1 := by have := HBB.out.2; omega
      have hB1e : B1 = B + 1 := by have := HBB.out.1; have := HBB.out.2; omega
      obtain ⟨W1, hW1⟩ : ∃ W1, W1 = (wr.setCell ⟨R, 0, none⟩ (.slice none 0 0)).setCell ⟨R, 1, none⟩ (.bool false) := ⟨_, rfl⟩
      have hr0 := rd_set0 hbr (.slice none 0 0)
      have hr1 := rd_set1 hr0 (.bool false)
      obtain ⟨_, b1, _, _, _, g1, _, _⟩ := rd_cells hr0
      rw [← hW1] at hr1
      have hWB : W1.heap[B]? = some (hdC x) := by
        rw [hW1, Below.heap_setCell _ _ _ _ (Ne.symm hRB), Below.heap_setCell _ _ _ _ (Ne.symm hRB)]
        exact hH.blk
      have hWB1 : W1.heap[B1]? = some noRec := by
        rw [hW1, Below.heap_setCell _ _ _ _ (Ne.symm hRB1), Below.heap_setCell _ _ _ _ (Ne.symm hRB1), hB1e]
        exact hH.res
      have hWF : Fr (fun i => i = R) w W1 := by
        rw [hW1]
        exact ((hH.fr.mono (S := fun i => i = R) (fun _ _ e => e.elim)).setCell (p := ⟨R, 0, none⟩) (Or.inl rfl) _).setCell (p := ⟨R, 1, none⟩) (Or.inl rfl) _
      obtain ⟨z0, hz0⟩ : ∃ z : ByteArray, z = ⟨x.name.toArray⟩ := ⟨_, rfl⟩
      obtain ⟨z1, hz1⟩ : ∃ z : ByteArray, z = ⟨x.link.toArray⟩ := ⟨_, rfl⟩
      obtain ⟨z2, hz2⟩ : ∃ z, z = x.mode := ⟨_, rfl⟩
      obtain ⟨z3, hz3⟩ : ∃ z, z = x.size := ⟨_, rfl⟩
      obtain ⟨z4, hz4⟩ : ∃ z, z = (x.kind.toNat : Int) := ⟨_, rfl⟩
      have HXV := Lib.hid (show hdV (holdF h L) = .agg #[.string z0, .string z1, .int .i64 z2, .int .i64 z3, .int .u8 z4] from by rw [← hx, hz0, hz1, hz2, hz3, hz4])
      rw [show hdC x = .cells #[.string z0, .string z1, .int .i64 z2, .int .i64 z3, .int .u8 z4] 57 from by rw [hz0, hz1, hz2, hz3, hz4]] at hWB
      obtain ⟨c0, c1, c2, c3, c4, _, _, _, _, _⟩ := five_cells hWB
      obtain ⟨d0, d1, d2, d3, d4, p0, p1, p2, p3, p4⟩ := five_cells hWB1
      have HE := Lib.hid (⟨hr1, hWB1, hWF, hRB1, by rw [hB1e]; have := HBB.out.1; omega⟩ : _ ∧ _ ∧ _ ∧ _ ∧ w.heap.size ≤ B1)
      have HW1 := Lib.hid hW1
      clear hlt hr hL hLL hpar hn hb hx hz0 hz1 hz2 hz3 hz4 hRB hRB1 hB1e hr0 hr1 hWB hWB1 hWF hH hW1
      go_upto_region 13 with fail
      rw [← HW1.out]
      go_wp2_with fail
      refine bodyPost_ret (v := .agg #[.string z0, .string z1, .int .i64 z2, .int .i64 z3, .int .u8 z4]) (results_hold rfl _ _ B1 _ rfl rfl (five_set HE.out.2.1)) rfl ⟨by rw [HXV.out], ?_, ?_⟩
      · have hg := HE.out.2.2.2.2
        exact ((((HE.out.2.2.1.setCell (p := ⟨B1, 0, none⟩) (Or.inr hg) _).setCell (p := ⟨B1, 1, none⟩) (Or.inr hg) _).setCell (p := ⟨B1, 2, none⟩) (Or.inr hg) _).setCell (p := ⟨B1, 3, none⟩) (Or.inr hg) _).setCell (p := ⟨B1, 4, none⟩) (Or.inr hg) _
      · have hne := HE.out.2.2.2.1
        rw [Below.heap_setCell _ _ _ _ hne, Below.heap_setCell _ _ _ _ hne, Below.heap_setCell _ _ _ _ hne, Below.heap_setCell _ _ _ _ hne, Below.heap_setCell _ _ _ _ hne]
        exact HE.out.1
end Go.Proofs.YtgimiggffpokpaaGreatDoor.ta
