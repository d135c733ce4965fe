/-
  The step that writes sectors, and a sync.
-/
import Derived.Test.YtflapnbpaodhaaaGreatDoorHdR
import Derived.Test.YtflapnbpaodhaaaGreatDoorDs
namespace Go.Proofs.YtflapnbpaodhaaaGreatDoor.hd
set_option maxRecDepth 100000
open Go.RowKit Go.Maps ds

/-- Sectors with their homes, each of 256 bytes, none in the disk's own blocks. -/
def BkT (w : World) (blk off : Nat) (x : Int × List UInt8) : Prop :=
  w.cell? ⟨blk, off, none⟩ = some (.int .i64 x.1) ∧ ∃ b o c t, w.cell? ⟨blk, off + 1, none⟩ = some (.slice (some ⟨b, o, none⟩) 256 c) ∧ x.2.length = 256 ∧ Ty w t b ∧ (t ≠ 66 ∧ t ≠ 74) ∧ t ≠ 38 ∧ Reads w b o x.2
theorem cell_keep {w w' : World} (h : Keep w w') {t : TypeId} {i : Nat} (hi : Ty w t i) (ht : t ≠ 66) (o : Nat) : w'.cell? ⟨i, o, none⟩ = w.cell? ⟨i, o, none⟩ := World.cell?_of_block (w := w) (w' := w') (a := ⟨i, o, none⟩) (h.2 t i hi ht)
def BksT (w : World) (p : Option Addr) (l : List (Int × List UInt8)) : Prop :=
  l ≠ [] → ∃ blk off, p = some ⟨blk, off, none⟩ ∧ Ty w 38 blk ∧ ∀ i x, l[i]? = some x → BkT w blk (off + i * 2) x
theorem BksT.keep {w w' : World} {p : Option Addr} {l : List (Int × List UInt8)} (h : BksT w p l) (hK : Keep w w') : BksT w' p l := fun hne => by
  obtain ⟨blk, off, hp, hb, hx⟩ := h hne
  refine ⟨blk, off, hp, hK.ty hb (by decide), fun i x hi => ?_⟩
  obtain ⟨c0, b, o, c, t, c1, hl, ht, hd, hbk, hr⟩ := hx i x hi
  exact ⟨(cell_keep hK hb (by decide) _).trans c0, b, o, c, t, (cell_keep hK hb (by decide) _).trans c1, hl, hK.ty ht hd.1, hd, hbk, fun j y hj => (cell_keep hK ht hd.1 _).trans (hr j y hj)⟩
theorem BksT.bks {w : World} {p : Option Addr} {l : List (Int × List UInt8)} (h : BksT w p l) : Bks w w.heap.size p l := fun hne => by
  obtain ⟨blk, off, hp, hb, hx⟩ := h hne
  refine ⟨blk, off, hp, hb.lt, fun i x hi => ?_⟩
  obtain ⟨c0, b, o, c, t, c1, hl, ht, hd, _, hr⟩ := hx i x hi
  exact ⟨c0, some ⟨b, o, none⟩, c, by rw [hl]; exact c1, fun _ => ⟨b, o, rfl, ht.lt, hr⟩⟩

/-- Whatever is of another type than a disk or a log stays. -/
def Keep2 (w w' : World) : Prop := w.heap.size ≤ w'.heap.size ∧ ∀ t i, Ty w t i → (t ≠ 66 ∧ t ≠ 74) → w'.heap[i]? = w.heap[i]?
theorem keep_two {w w' : World} (h : Keep w w') : Keep2 w w' := ⟨h.1, fun t i hi ht => h.2 t i hi ht.1⟩
theorem Keep2.refl (w : World) : Keep2 w w := keep_two (Keep.refl w)
theorem Keep2.ty {w w' : World} (h : Keep2 w w') {t : TypeId} {i : Nat} (hi : Ty w t i) (ht : t ≠ 66 ∧ t ≠ 74) : Ty w' t i := by
  obtain ⟨cs, hc⟩ := id hi
  exact ⟨cs, (h.2 t i hi ht).trans hc⟩
theorem Keep2.trans {a b c : World} (h : Keep2 a b) (k : Keep2 b c) : Keep2 a c := ⟨Nat.le_trans h.1 k.1, fun t i hi ht => (k.2 t i (h.ty hi ht) ht).trans (h.2 t i hi ht)⟩
theorem cell_keep2 {w w' : World} (h : Keep2 w w') {t : TypeId} {i : Nat} (hi : Ty w t i) (ht : t ≠ 66 ∧ t ≠ 74) (o : Nat) : w'.cell? ⟨i, o, none⟩ = w.cell? ⟨i, o, none⟩ := World.cell?_of_block (w := w) (w' := w') (a := ⟨i, o, none⟩) (h.2 t i hi ht)
theorem BksT.keep2 {w w' : World} {p : Option Addr} {l : List (Int × List UInt8)} (h : BksT w p l) (hK : Keep2 w w') : BksT w' p l := fun hne => by
  obtain ⟨blk, off, hp, hb, hx⟩ := h hne
  refine ⟨blk, off, hp, hK.ty hb (by decide), fun i x hi => ?_⟩
  obtain ⟨c0, b, o, c, t, c1, hl, ht, hd, hbk, hr⟩ := hx i x hi
  exact ⟨(cell_keep2 hK hb (by decide) _).trans c0, b, o, c, t, (cell_keep2 hK hb (by decide) _).trans c1, hl, hK.ty ht hd, hd, hbk, fun j y hj => (cell_keep2 hK ht hd _).trans (hr j y hj)⟩

theorem isD_big {w0 w : World} {pb N B B' : Nat} {d : DS} (h : IsD w0 pb N B d w) (hB : B ≤ B') (hs : B' ≤ 100000000) : IsD w0 pb N B' d w := by
  obtain ⟨⟨bv, bt, c, V, T, hg, h1⟩, hf⟩ := h
  exact ⟨⟨bv, bt, c, V, T, hg.big hB hs, h1⟩, hf⟩

/-- What a step does, and answers. -/
def stepR (d : DS) : List (Int × List UInt8) → DS × Int
  | [] => (d.sync, d.err)
  | x :: r => if d.gone then (d.write x.1 x.2, 10) else stepR (d.write x.1 x.2) r
theorem err_gone {d : DS} (h : d.gone) : d.err = 10 := if_pos h
theorem err_not {d : DS} (h : ¬ d.gone) : d.err = 0 := if_neg h

/-- A step, as a function. -/
def StepW (w : World) (v : Value) (pb at_ rc : Nat) (p : Option Addr) (n cap : Nat) : Prop :=
  ∃ gl gr, v = .func (.func 64) #[] #[.pointer (some ⟨gl, 0, none⟩), .pointer (some ⟨gr, 0, none⟩)] ∧ w.heap[gl]? = some (.cells #[.slice p n cap] 30 (0, 0)) ∧ BoxR w gr pb at_ rc

set_option maxHeartbeats 1000000 in
theorem write_any (w : World) (pb at_ rc : Nat) (p : Option Addr) (n cap : Nat) :
    Calls Tryz.prog 44 #[roomV pb at_ rc, .slice p n cap] w fun e w' => ∃ v, e = .returned v ∧ StepW w' v pb at_ rc p n cap ∧ Fr (fun _ => False) w w' := by
  have HF := Lib.hid (((Fr.refl (fun _ => False) w).alloc (.cells #[.pointer (some ⟨pb, 0, none⟩), .int .i64 (at_ : Int), .int .i64 (rc : Int)] 72)).alloc (.cells #[.slice p n cap] 30))
  have H1 := Lib.hid (heap_alloc2_new w (.cells #[.pointer (some ⟨pb, 0, none⟩), .int .i64 (at_ : Int), .int .i64 (rc : Int)] 72) (.cells #[.slice p n cap] 30))
  have H2 := Lib.hid (heap_alloc2_old w (.cells #[.pointer (some ⟨pb, 0, none⟩), .int .i64 (at_ : Int), .int .i64 (rc : Int)] 72) (.cells #[.slice p n cap] 30))
  unfold roomV
  go_enter Tryz.func44, Tryz.ntmps44
  go_wp2_with fail
  go_ret
  exact ⟨_, rfl, ⟨_, _, rfl, H1.out, H2.out⟩, HF.out⟩

set_option maxHeartbeats 4000000 in
theorem step_any (w0 w : World) (pb N B : Nat) (d : DS) (hD : IsD w0 pb N B d w) (at_ rc gl gr : Nat) (p : Option Addr) (cap : Nat) (l : List (Int × List UInt8)) (hgl : w.heap[gl]? = some (.cells #[.slice p l.length cap] 30 (0, 0))) (hgr : BoxR w gr pb at_ rc) (hB : BksT w p l) (hn : l.length ≤ 1000) (hbig : B + 2 * l.length + 2 ≤ 100000000) (hx : ∀ x ∈ l, 0 ≤ x.1 ∧ x.1 < N) :
    Calls Tryz.prog 64 #[.pointer (some ⟨gl, 0, none⟩), .pointer (some ⟨gr, 0, none⟩)] w fun e w' => e = .returned (.int .i64 (stepR d l).2) ∧ IsD w0 pb N (B + 2 * l.length + 2) (stepR d l).1 w' ∧ Keep w w' := by
  obtain ⟨n, hn'⟩ : ∃ n, n = l.length := ⟨_, rfl⟩
  rw [← hn'] at hgl hn hbig ⊢
  have HD := Lib.hid (⟨hD, Keep.refl w, rfl⟩ : IsD w0 pb N (B + 2 * 0) d w ∧ Keep w w ∧ stepR d l = stepR d (l.drop 0))
  have HB := Lib.hid hB
  have HX := Lib.hid hx
  have HLEN := Lib.hid hn'
  have HGR := Lib.hid hgr
  have HTR := Lib.hid (show Ty w 72 gr from ⟨_, hgr⟩)
  have c0 : w.cell? ⟨gl, 0, none⟩ = some (.slice p n cap) := by rw [cellAt hgl]; rfl
  clear hD hB hx hn' hgl hgr
  go_enter Tryz.func64, Tryz.ntmps64
  go_wp2_with fail
  go_loopw [8] (fun v wr => ∃ (k : Nat) (dk : DS), k ≤ n ∧ v = .int .i64 k ∧ Hid (IsD w0 pb N (B + 2 * k) dk wr ∧ Keep w wr ∧ stepR d l = stepR dk (l.drop k))) (fun v _ => n - (intOf v).toNat)
  case atStart => exact ⟨0, d, Nat.zero_le _, rfl, HD⟩
  case round =>
    obtain ⟨k, dk, hk, rfl, HR⟩ := hrel
    have HRD : Hid (BoxR wr gr pb at_ rc) := Lib.hid ((HR.out.2.1.2 _ gr HTR.out (by decide)).trans HGR.out)
    have g0 := HRD.out.c.1
    by_cases hlt : k < n
    · have hkl : k < l.length := by have := HLEN.out; omega
      obtain ⟨x, hx⟩ : ∃ x, l[k]? = some x := ⟨_, List.getElem?_eq_getElem hkl⟩
      have hdrop : l.drop k = x :: l.drop (k + 1) := by
        rw [List.drop_eq_getElem_cons hkl]
        rw [List.getElem?_eq_getElem hkl] at hx
        cases hx
        rfl
      obtain ⟨blk, off, rfl, hb, hc⟩ := (HB.out.keep HR.out.2.1) (by rintro rfl; simp at hx)
      obtain ⟨q0, b, o, c, t, q1, hl, ht, hd, _, hr⟩ := hc k x hx
      obtain ⟨z0, z1⟩ := HX.out x (List.mem_of_getElem? hx)
      have hF : Fr (fun _ => False) wr (wr.alloc (.cells #[.int .i64 x.1, .slice (some ⟨b, o, none⟩) 256 c] 38)) := (Fr.refl _ wr).alloc _
      have HK1 := Lib.hid (Keep.of_fr hF)
      have HW := Lib.hid ((HR.out.1.calm hF).write (by omega) x.1 z0 z1 (cap := c) b o x.2 hl (HK1.out.ty ht hd.1) hd.1 (fun j y hj => (cell_keep HK1.out ht hd.1 _).trans (hr j y hj)))
      have g1 := (HRD.out.calm hF).c.1
      have HS := Lib.hid (HR.out.2.2.trans (by rw [hdrop]) : stepR d l = stepR dk (x :: l.drop (k + 1)))
      clear hb hc hx hdrop hkl hl ht hr z0 z1 hF
      by_cases hg : dk.gone
      · have he := err_gone hg
        rw [he] at HW
        have HE := Lib.hid (HS.out.trans (if_pos hg))
        clear hg he
        go_wp2_with fail
        refine HW.out.mono ?_
        rintro e w4 ⟨rfl, hD4, hK4⟩
        have HD4 := Lib.hid (⟨hD4, (HR.out.2.1.trans HK1.out).trans hK4⟩ : _ ∧ _)
        clear hD4 hK4
        go_wp2_with fail
        go_ret
        rw [HE.out]
        exact ⟨rfl, isD_big HD4.out.1 (by omega) (by omega), HD4.out.2⟩
      · have he := err_not hg
        rw [he] at HW
        have HE := Lib.hid (HS.out.trans (if_neg hg))
        clear hg he
        go_wp2_with fail
        refine HW.out.mono ?_
        rintro e w4 ⟨rfl, hD4, hK4⟩
        have HD4 := Lib.hid (⟨hD4, (HR.out.2.1.trans HK1.out).trans hK4, HE.out⟩ : _ ∧ _ ∧ _)
        clear hD4 hK4
        go_wp2_with fail
        go_roundw
        case rel => exact ⟨k + 1, _, by omega, by go_num, HD4⟩
        case measure => simp [intOf]; omega
    · obtain rfl : k = n := by omega
      have HS := Lib.hid (HR.out.1.sync (by omega))
      have HE := Lib.hid (show stepR d l = (dk.sync, dk.err) by
        rw [HR.out.2.2, List.drop_eq_nil_of_le (by have := HLEN.out; omega)]
        rfl)
      go_wp2_with fail
      refine HS.out.mono ?_
      rintro e w4 ⟨rfl, hD4, hK4⟩
      have HD4 := Lib.hid (⟨hD4, HR.out.2.1.trans hK4⟩ : _ ∧ _)
      clear hD4 hK4
      go_wp2_with fail
      go_ret
      rw [HE.out]
      exact ⟨rfl, HD4.out.1, HD4.out.2⟩
end Go.Proofs.YtflapnbpaodhaaaGreatDoor.hd
