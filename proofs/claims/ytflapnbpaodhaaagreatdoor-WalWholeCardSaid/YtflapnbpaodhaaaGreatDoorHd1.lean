/-
  refuses: what forbids a commit.
-/
import Derived.Test.YtflapnbpaodhaaaGreatDoorHdJ
namespace Go.Proofs.YtflapnbpaodhaaaGreatDoor.hd
set_option maxRecDepth 100000
open Go.RowKit Go.Maps ds
set_option maxRecDepth 100000

/-- Is one of them not in the home, or at the place of the one ahead of it? -/
def badF (lo hi : Int) : Option Int → List (Int × List UInt8) → Bool
  | _, [] => false
  | pr, x :: r => !(decide (lo ≤ x.1) && decide (x.1 < hi)) || decide (pr = some x.1) || badF lo hi (some x.1) r
def prevOf (l : List (Int × List UInt8)) : Nat → Option Int
  | 0 => none
  | k + 1 => (l[k]?).map (·.1)
def refR (lo hi : Int) (rc : Nat) (l : List (Int × List UInt8)) : Int := if badF lo hi none l = true then 2 else if rc < l.length then 4 else 0

/-- The call's own, in its loop. -/
structure Rs (w0 w : World) (pb N B : Nat) (d : DS) (wb at_ rc t0 : Nat) (sp : Bool) (p : Option Addr) (l : List (Int × List UInt8)) (wr : World) : Prop where
  wal : wr.heap[wb]? = some (walO pb at_ rc t0 sp)
  dsk : IsD w0 pb N B d wr
  bks : BksT wr p l
  fr : Fr (fun _ => False) w wr
theorem Rs.calm {w0 w wr w2 : World} {pb N B wb at_ rc t0 : Nat} {d : DS} {sp : Bool} {p : Option Addr} {l : List (Int × List UInt8)} (h : Rs w0 w pb N B d wb at_ rc t0 sp p l wr) (hF : Fr (fun _ => False) wr w2) : Rs w0 w pb N B d wb at_ rc t0 sp p l w2 :=
  ⟨(hF.block _ (Array.getElem?_eq_some_iff.1 h.wal).1 id).trans h.wal, h.dsk.calm hF, h.bks.keep (Keep.of_fr hF), h.fr.trans hF (fun _ _ e => e)⟩

theorem bks_at {w : World} {blk off : Nat} {l : List (Int × List UInt8)} (h : BksT w (some ⟨blk, off, none⟩) l) {i : Nat} {x : Int × List UInt8} (hi : l[i]? = some x) : w.cell? ⟨blk, off + i * 2, none⟩ = some (.int .i64 x.1) := by
  obtain ⟨blk', off', e, _, hx⟩ := h (by rintro rfl; simp at hi)
  cases e
  exact (hx i x hi).1
theorem rsHeld {w0 w wr : World} {pb N B wb at_ rc t0 : Nat} {d : DS} {sp : Bool} {p : Option Addr} {l : List (Int × List UInt8)} (h : Rs w0 w pb N B d wb at_ rc t0 sp p l wr) {gx : Nat} {xv : Int} {v : Value} (hx : wr.heap[gx]? = some (.cells #[.int .i64 xv, v] 38 (0, 0))) :
    wr.cell? ⟨wb, 0, none⟩ = some (.pointer (some ⟨pb, 0, none⟩)) ∧ wr.cell? ⟨wb, 1, none⟩ = some (.int .i64 (at_ : Int)) ∧ wr.cell? ⟨wb, 2, none⟩ = some (.int .i64 (rc : Int)) ∧ wr.cell? ⟨gx, 0, none⟩ = some (.int .i64 xv) ∧ wr.cell? ⟨gx, 1, none⟩ = some v := by
  obtain ⟨a, b, c, _⟩ := wal_c h.wal
  exact ⟨a, b, c, by rw [cellAt hx]; rfl, by rw [cellAt hx]; rfl⟩
theorem rsHeld2 {w0 w wr : World} {pb N B wb at_ rc t0 blk off j : Nat} {d : DS} {sp : Bool} {l : List (Int × List UInt8)} (h : Rs w0 w pb N B d wb at_ rc t0 sp (some ⟨blk, off, none⟩) l wr) {gx : Nat} {xv : Int} {v : Value} (hx : wr.heap[gx]? = some (.cells #[.int .i64 xv, v] 38 (0, 0))) {y : Int × List UInt8} (hj : l[j]? = some y) :
    wr.cell? ⟨wb, 0, none⟩ = some (.pointer (some ⟨pb, 0, none⟩)) ∧ wr.cell? ⟨wb, 1, none⟩ = some (.int .i64 (at_ : Int)) ∧ wr.cell? ⟨wb, 2, none⟩ = some (.int .i64 (rc : Int)) ∧ wr.cell? ⟨gx, 0, none⟩ = some (.int .i64 xv) ∧ wr.cell? ⟨gx, 1, none⟩ = some v ∧ wr.cell? ⟨blk, off + j * 2, none⟩ = some (.int .i64 y.1) := by
  obtain ⟨a, b, c, e, f⟩ := rsHeld h hx
  exact ⟨a, b, c, e, f, bks_at h.bks hj⟩
theorem hid2 {A B C D E : Prop} {w : World} {a : Addr} {y yv : Int} (h : A ∧ B ∧ C ∧ D ∧ E ∧ w.cell? a = some (.int .i64 y)) (e : y = yv) : A ∧ B ∧ C ∧ D ∧ E ∧ w.cell? a = some (.int .i64 yv) := by
  rw [← e]
  exact h
theorem badF_drop {lo hi : Int} {l : List (Int × List UInt8)} {k : Nat} {x : Int × List UInt8} (hx : l[k]? = some x) : badF lo hi (prevOf l k) (l.drop k) = (!(decide (lo ≤ x.1) && decide (x.1 < hi)) || decide (prevOf l k = some x.1) || badF lo hi (prevOf l (k + 1)) (l.drop (k + 1))) := by
  have hk := (List.getElem?_eq_some_iff.1 hx).1
  rw [List.drop_eq_getElem_cons hk]
  rw [List.getElem?_eq_getElem hk] at hx
  cases hx
  rw [badF]
  congr 2
  rw [prevOf, List.getElem?_eq_getElem hk]
  rfl

set_option maxHeartbeats 8000000 in
theorem refuses_any (w0 w : World) (pb N B wb at_ rc t0 : Nat) (d : DS) (sp : Bool) (p : Option Addr) (cap : Nat) (l : List (Int × List UInt8)) (hR : Rs w0 w pb N B d wb at_ rc t0 sp p l w) (h1 : at_ ≤ 100000) (h2 : rc ≤ 100000) (hn : l.length ≤ 1000) :
    Calls Tryz.prog 34 #[.pointer (some ⟨wb, 0, none⟩), .slice p l.length cap] w fun e w' => e = .returned (.int .i64 (refR ((at_ + 1 + rc : Nat) : Int) N rc l)) ∧ Fr (fun _ => False) w w' := by
  obtain ⟨n, hn'⟩ : ∃ n, n = l.length := ⟨_, rfl⟩
  rw [← hn'] at hn ⊢
  have HLEN := Lib.hid hn'
  have HR0 := Lib.hid (⟨hR, rfl⟩ : Rs w0 w pb N B d wb at_ rc t0 sp p l w ∧ badF ((at_ + 1 + rc : Nat) : Int) N none l = badF ((at_ + 1 + rc : Nat) : Int) N (prevOf l 0) (l.drop 0))
  have HIH : Hid (∀ w2 x, Rs w0 w pb N B d wb at_ rc t0 sp p l w2 → Calls Tryz.prog 53 #[.agg #[.pointer (some ⟨pb, 0, none⟩), .int .i64 (at_ : Int), .int .i64 (rc : Int)], .int .i64 x] w2 fun e w' => e = .returned (.bool (decide (((at_ + 1 + rc : Nat) : Int) ≤ x) && decide (x < N))) ∧ Fr (fun _ => False) w2 w') :=
    Lib.hid fun w2 x h => isHome_any w2 pb at_ rc N h1 h2 h.dsk.cell0.2.1 h.dsk.cell0.1 h.dsk.cell0.2.2 x
  obtain ⟨lo, hlo⟩ : ∃ lo : Int, lo = ((at_ + 1 + rc : Nat) : Int) := ⟨_, rfl⟩
  rw [← hlo] at HR0 HIH ⊢
  clear hR hn' hlo
  go_enter Tryz.func34, Tryz.ntmps34
  go_wp2_with fail
  go_loopw [9] (fun v wr => ∃ k : Nat, k ≤ n ∧ v = .int .i64 k ∧ Hid (Rs w0 w pb N B d wb at_ rc t0 sp p l wr ∧ badF lo N none l = badF lo N (prevOf l k) (l.drop k))) (fun v _ => n - (intOf v).toNat)
  case atStart => exact ⟨0, Nat.zero_le _, rfl, HR0⟩
  case round =>
    obtain ⟨k, hk, rfl, HR⟩ := hrel
    by_cases hlt : k < n
    · have hkl : k < l.length := by have := HLEN.out; omega
      obtain ⟨x, hx⟩ : ∃ x, l[k]? = some x := ⟨_, List.getElem?_eq_getElem hkl⟩
      obtain ⟨blk, off, rfl, hb, hc⟩ := HR.out.1.bks (by rintro rfl; simp at hx)
      obtain ⟨q0, b, o, c, t, q1, hl, ht, hd, hdb, hr⟩ := hc k x hx
      have HC := Lib.hid hc
      obtain ⟨xv, hxv⟩ : ∃ xv, xv = x.1 := ⟨_, rfl⟩
      have HBD := Lib.hid (HR.out.2.trans (badF_drop hx))
      rw [← hxv] at HBD q0
      clear hl ht hd hdb hr hc hxv
      go_wp2_with fail
      have hFx := (Fr.refl (fun _ => False) wr).alloc (.cells #[.int .i64 xv, .slice (some ⟨b, o, none⟩) 256 c] 38)
      have HX : Hid (Rs w0 w pb N B d wb at_ rc t0 sp (some ⟨blk, off, none⟩) l (wr.alloc (.cells #[.int .i64 xv, .slice (some ⟨b, o, none⟩) 256 c] 38)) ∧ (wr.alloc (.cells #[.int .i64 xv, .slice (some ⟨b, o, none⟩) 256 c] 38)).heap[wr.heap.size]? = some (.cells #[.int .i64 xv, .slice (some ⟨b, o, none⟩) 256 c] 38 (0, 0))) := Lib.hid ⟨HR.out.1.calm hFx, heap_alloc_new _ _⟩
      clear hFx HR q0 q1 HC hb
      generalize wr.heap.size = gx at HX ⊢
      generalize wr.alloc (.cells #[.int .i64 xv, .slice (some ⟨b, o, none⟩) 256 c] 38) = wx at HX ⊢
      have hk0 : (0 : Int) ≤ k := by omega
      have hkb : (k : Int) < 1000 := by omega
      by_cases hh : lo ≤ xv ∧ xv < N
      · have HHB : (decide (lo ≤ xv) && decide (xv < (N : Int))) = true := by simp [hh]
        have hpv : (¬ (0 : Int) < k ∧ prevOf l k = none) ∨ (∃ j y, (0 : Int) < k ∧ l[j]? = some y ∧ IntKind.i64.wrap ((k : Int) - 1) = (j : Nat) ∧ (j : Int) < n ∧ prevOf l k = some y.1) := by
          cases k with
          | zero => exact Or.inl ⟨by omega, rfl⟩
          | succ j => exact Or.inr ⟨j, l[j], by omega, List.getElem?_eq_getElem (by omega), by rw [IntWalk.i64_in _ ⟨by omega, by omega⟩]; omega, by omega, by rw [prevOf, List.getElem?_eq_getElem (by omega)]; rfl⟩
        rcases hpv with ⟨hk1, hpr⟩ | ⟨j, y, hk1, hj, hwj, hjn, hpr⟩
        · have hkn : decide (0 < k) = false := decide_eq_false (by omega)
          have HGOOD := Lib.hid (show badF lo N none l = badF lo N (prevOf l (k + 1)) (l.drop (k + 1)) by rw [HBD.out, HHB, hpr]; simp)
          clear hpr hx hkl HBD hh
          refine wp_region_held_drew (S := fun w' => w'.cell? ⟨wb, 0, none⟩ = some (.pointer (some ⟨pb, 0, none⟩)) ∧ w'.cell? ⟨wb, 1, none⟩ = some (.int .i64 (at_ : Int)) ∧ w'.cell? ⟨wb, 2, none⟩ = some (.int .i64 (rc : Int)) ∧ w'.cell? ⟨gx, 0, none⟩ = some (.int .i64 xv) ∧ w'.cell? ⟨gx, 1, none⟩ = some (.slice (some ⟨b, o, none⟩) 256 c)) (by kernel_rfl) (by exact rsHeld (HX.out.1.calm (Fr.refl _ _).drew) HX.out.2) (fun hHeld => ?_)
          refine wpAnyH_take (i := 0) (oi := { dst := some 14, op := Op.move (Operand.tmp 0), type := 27, pos := "wal.go:88", after := #[], guard := none }) (v := ?va0) rfl (by kernel_rfl) (by kernel_rfl) (by kernel_rfl) (fun _ _ _ h => h) (Or.inl ⟨by rfl, ?ya0⟩) hHeld ?ra0
          case ya0 => (intro w2 hSw; (try dsimp only at hSw); go_simp; try with_reducible rfl)
          (try simp only [Act.put, List.setIfInBounds_toArray, List.set_cons_zero, List.set_cons_succ])
          refine wpAnyH_take (i := 1) (oi := { dst := some 15, op := Op.nilCheck (Operand.tmp 14), type := 0, pos := "wal.go:88", after := #[{ on := 0, ground := Ground.data }], guard := none }) (v := ?va1) rfl (by kernel_rfl) (by kernel_rfl) (by kernel_rfl) (fun _ _ _ h => h) (Or.inl ⟨by rfl, ?ya1⟩) hHeld ?ra1
          case ya1 => (intro w2 hSw; (try dsimp only at hSw); go_simp; try with_reducible rfl)
          (try simp only [Act.put, List.setIfInBounds_toArray, List.set_cons_zero, List.set_cons_succ])
          refine wpAnyH_take (i := 2) (oi := { dst := some 16, op := Op.fieldAddr 74 (Operand.tmp 15) 0, type := 0, pos := "wal.go:88", after := #[{ on := 1, ground := Ground.data }], guard := none }) (v := ?va2) rfl (by kernel_rfl) (by kernel_rfl) (by kernel_rfl) (fun _ _ _ h => h) (Or.inl ⟨by rfl, ?ya2⟩) hHeld ?ra2
          case ya2 => (intro w2 hSw; (try dsimp only at hSw); go_simp; try with_reducible rfl)
          (try simp only [Act.put, List.setIfInBounds_toArray, List.set_cons_zero, List.set_cons_succ])
          refine wpAnyH_take (i := 3) (oi := { dst := some 17, op := Op.load 72 (Operand.tmp 16), type := 72, pos := "wal.go:88", after := #[{ on := 2, ground := Ground.data }], guard := none }) (v := ?va3) rfl (by kernel_rfl) (by kernel_rfl) (by kernel_rfl) (fun _ _ _ h => h) (Or.inl ⟨by rfl, ?ya3⟩) hHeld ?ra3
          case ya3 => (intro w2 hSw; (try dsimp only at hSw); go_simp; try with_reducible rfl)
          (try simp only [Act.put, List.setIfInBounds_toArray, List.set_cons_zero, List.set_cons_succ])
          refine wpAnyH_take (i := 4) (oi := { dst := some 18, op := Op.fieldAddr 38 (Operand.tmp 6) 0, type := 0, pos := "wal.go:88", after := #[], guard := none }) (v := ?va4) rfl (by kernel_rfl) (by kernel_rfl) (by kernel_rfl) (fun _ _ _ h => h) (Or.inl ⟨by rfl, ?ya4⟩) hHeld ?ra4
          case ya4 => (intro w2 hSw; (try dsimp only at hSw); go_simp; try with_reducible rfl)
          (try simp only [Act.put, List.setIfInBounds_toArray, List.set_cons_zero, List.set_cons_succ])
          refine wpAnyH_take (i := 5) (oi := { dst := some 19, op := Op.load 3 (Operand.tmp 18), type := 3, pos := "wal.go:88", after := #[{ on := 4, ground := Ground.data }], guard := none }) (v := ?va5) rfl (by kernel_rfl) (by kernel_rfl) (by kernel_rfl) (fun _ _ _ h => h) (Or.inl ⟨by rfl, ?ya5⟩) hHeld ?ra5
          case ya5 => (intro w2 hSw; (try dsimp only at hSw); go_simp; try with_reducible rfl)
          (try simp only [Act.put, List.setIfInBounds_toArray, List.set_cons_zero, List.set_cons_succ])
          refine wpAnyH_ready (rs := [6]) (by kernel_rfl) (by simp) (AllReadyH.cons (o := { dst := some 20, op := Op.call { callee := Callee.value (Operand.func 53), args := #[Operand.tmp 17, Operand.tmp 19], argTypes := #[72, 3] }, type := 4, pos := "wal.go:88", after := #[{ on := 3, ground := Ground.data }, { on := 5, ground := Ground.data }], guard := none }) rfl (fun K hK => ?_) AllReadyH.nil)
          go_simp
          go_at_call 53
          refine (HIH.out _ xv (HX.out.1.calm (Fr.refl _ _).drew)).mono ?_
          rintro e w7 ⟨rfl, hF7⟩
          have H7 := Lib.hid (⟨(HX.out.1.calm (Fr.refl _ _).drew).calm hF7, (hF7.block _ (Array.getElem?_eq_some_iff.1 HX.out.2).1 id).trans HX.out.2⟩ : Rs w0 w pb N B d wb at_ rc t0 sp (some ⟨blk, off, none⟩) l w7 ∧ w7.heap[gx]? = some (.cells #[.int .i64 xv, .slice (some ⟨b, o, none⟩) 256 c] 38 (0, 0)))
          rw [HHB]
          clear hF7
          refine hK.out _ _ (by exact rsHeld H7.out.1 H7.out.2) (fun hHeld7 => ?_)
          clear hK K hHeld
          refine wpAnyH_take (i := 7) (oi := { dst := some 21, op := Op.unOp UnOp.not 4 (Operand.tmp 20), type := 4, pos := "wal.go:88", after := #[{ on := 6, ground := Ground.data }], guard := none }) (v := ?va7) rfl (by kernel_rfl) (by kernel_rfl) (by kernel_rfl) (fun _ _ _ h => h) (Or.inl ⟨by rfl, ?ya7⟩) hHeld7 ?ra7
          case ya7 => (intro w2 hSw; (try dsimp only at hSw); go_simp; try with_reducible rfl)
          (try simp only [Act.put, List.setIfInBounds_toArray, List.set_cons_zero, List.set_cons_succ])
          refine wpAnyH_take (i := 8) (oi := { dst := some 22, op := Op.move (Operand.tmp 21), type := 4, pos := "wal.go:88", after := #[{ on := 7, ground := Ground.data }, { on := 6, ground := Ground.chain }], guard := none }) (v := ?va8) rfl (by kernel_rfl) (by kernel_rfl) (by kernel_rfl) (fun _ _ _ h => h) (Or.inl ⟨by rfl, ?ya8⟩) hHeld7 ?ra8
          case ya8 => (intro w2 hSw; (try dsimp only at hSw); go_simp; try with_reducible rfl)
          (try simp only [Act.put, List.setIfInBounds_toArray, List.set_cons_zero, List.set_cons_succ])
          first
            | (refine wpAnyH_take (i := 9) (oi := { dst := some 23, op := Op.fieldAddr 38 (Operand.tmp 6) 1, type := 0, pos := "wal.go:88", after := #[{ on := 8, ground := Ground.guard }], guard := some (8, false) }) (v := undef) rfl (by kernel_rfl) (by kernel_rfl) (by kernel_rfl) (fun _ _ _ h => h) (Or.inr ⟨by rfl, rfl⟩) hHeld7 ?_)
            | (refine wpAnyH_take (i := 9) (oi := { dst := some 23, op := Op.fieldAddr 38 (Operand.tmp 6) 1, type := 0, pos := "wal.go:88", after := #[{ on := 8, ground := Ground.guard }], guard := some (8, false) }) (v := ?va9) rfl (by kernel_rfl) (by kernel_rfl) (by kernel_rfl) (fun _ _ _ h => h) (Or.inl ⟨by rfl, ?ya9⟩) hHeld7 ?ra9; case ya9 => (intro w2 hSw; (try dsimp only at hSw); go_simp; try with_reducible rfl))
          (try simp only [Act.put, List.setIfInBounds_toArray, List.set_cons_zero, List.set_cons_succ])
          first
            | (refine wpAnyH_take (i := 10) (oi := { dst := some 24, op := Op.load 33 (Operand.tmp 23), type := 33, pos := "wal.go:88", after := #[{ on := 9, ground := Ground.data }, { on := 8, ground := Ground.guard }], guard := some (8, false) }) (v := undef) rfl (by kernel_rfl) (by kernel_rfl) (by kernel_rfl) (fun _ _ _ h => h) (Or.inr ⟨by rfl, rfl⟩) hHeld7 ?_)
            | (refine wpAnyH_take (i := 10) (oi := { dst := some 24, op := Op.load 33 (Operand.tmp 23), type := 33, pos := "wal.go:88", after := #[{ on := 9, ground := Ground.data }, { on := 8, ground := Ground.guard }], guard := some (8, false) }) (v := ?va10) rfl (by kernel_rfl) (by kernel_rfl) (by kernel_rfl) (fun _ _ _ h => h) (Or.inl ⟨by rfl, ?ya10⟩) hHeld7 ?ra10; case ya10 => (intro w2 hSw; (try dsimp only at hSw); go_simp; try with_reducible rfl))
          (try simp only [Act.put, List.setIfInBounds_toArray, List.set_cons_zero, List.set_cons_succ])
          first
            | (refine wpAnyH_take (i := 11) (oi := { dst := some 25, op := Op.call { callee := Callee.builtin Builtin.len, args := #[Operand.tmp 24], argTypes := #[33] }, type := 3, pos := "wal.go:88", after := #[{ on := 10, ground := Ground.data }, { on := 8, ground := Ground.guard }], guard := some (8, false) }) (v := undef) rfl (by kernel_rfl) (by kernel_rfl) (by kernel_rfl) (fun _ _ _ h => h) (Or.inr ⟨by rfl, rfl⟩) hHeld7 ?_)
            | (refine wpAnyH_take (i := 11) (oi := { dst := some 25, op := Op.call { callee := Callee.builtin Builtin.len, args := #[Operand.tmp 24], argTypes := #[33] }, type := 3, pos := "wal.go:88", after := #[{ on := 10, ground := Ground.data }, { on := 8, ground := Ground.guard }], guard := some (8, false) }) (v := ?va11) rfl (by kernel_rfl) (by kernel_rfl) (by kernel_rfl) (fun _ _ _ h => h) (Or.inl ⟨by rfl, ?ya11⟩) hHeld7 ?ra11; case ya11 => (intro w2 hSw; (try dsimp only at hSw); go_simp; try with_reducible rfl))
          (try simp only [Act.put, List.setIfInBounds_toArray, List.set_cons_zero, List.set_cons_succ])
          first
            | (refine wpAnyH_take (i := 12) (oi := { dst := some 26, op := Op.binOp BinOp.neq 3 (Operand.tmp 25) (Operand.const (Value.int IntKind.i64 256)) 3, type := 4, pos := "wal.go:88", after := #[{ on := 11, ground := Ground.data }, { on := 8, ground := Ground.guard }], guard := some (8, false) }) (v := undef) rfl (by kernel_rfl) (by kernel_rfl) (by kernel_rfl) (fun _ _ _ h => h) (Or.inr ⟨by rfl, rfl⟩) hHeld7 ?_)
            | (refine wpAnyH_take (i := 12) (oi := { dst := some 26, op := Op.binOp BinOp.neq 3 (Operand.tmp 25) (Operand.const (Value.int IntKind.i64 256)) 3, type := 4, pos := "wal.go:88", after := #[{ on := 11, ground := Ground.data }, { on := 8, ground := Ground.guard }], guard := some (8, false) }) (v := ?va12) rfl (by kernel_rfl) (by kernel_rfl) (by kernel_rfl) (fun _ _ _ h => h) (Or.inl ⟨by rfl, ?ya12⟩) hHeld7 ?ra12; case ya12 => (intro w2 hSw; (try dsimp only at hSw); go_simp; try with_reducible rfl))
          (try simp only [Act.put, List.setIfInBounds_toArray, List.set_cons_zero, List.set_cons_succ])
          refine wpAnyH_take (i := 13) (oi := { dst := some 27, op := Op.pick (Operand.tmp 22) (Operand.const (Value.bool true)) (Operand.tmp 26), type := 4, pos := "wal.go:88", after := #[{ on := 8, ground := Ground.data }, { on := 12, ground := Ground.data }], guard := none }) (v := ?va13) rfl (by kernel_rfl) (by kernel_rfl) (by kernel_rfl) (fun _ _ _ h => h) (Or.inl ⟨by rfl, ?ya13⟩) hHeld7 ?ra13
          case ya13 => (intro w2 hSw; (try dsimp only at hSw); go_simp; try with_reducible rfl)
          (try simp only [Act.put, List.setIfInBounds_toArray, List.set_cons_zero, List.set_cons_succ])
          refine wpAnyH_take (i := 14) (oi := { dst := some 28, op := Op.move (Operand.tmp 27), type := 4, pos := "wal.go:88", after := #[{ on := 13, ground := Ground.data }, { on := 8, ground := Ground.chain }], guard := none }) (v := ?va14) rfl (by kernel_rfl) (by kernel_rfl) (by kernel_rfl) (fun _ _ _ h => h) (Or.inl ⟨by rfl, ?ya14⟩) hHeld7 ?ra14
          case ya14 => (intro w2 hSw; (try dsimp only at hSw); go_simp; try with_reducible rfl)
          (try simp only [Act.put, List.setIfInBounds_toArray, List.set_cons_zero, List.set_cons_succ])
          first
            | (refine wpAnyH_take (i := 15) (oi := { dst := some 29, op := Op.move (Operand.tmp 5), type := 3, pos := "wal.go:88", after := #[{ on := 14, ground := Ground.guard }], guard := some (14, false) }) (v := undef) rfl (by kernel_rfl) (by kernel_rfl) (by kernel_rfl) (fun _ _ _ h => h) (Or.inr ⟨by rfl, rfl⟩) hHeld7 ?_)
            | (refine wpAnyH_take (i := 15) (oi := { dst := some 29, op := Op.move (Operand.tmp 5), type := 3, pos := "wal.go:88", after := #[{ on := 14, ground := Ground.guard }], guard := some (14, false) }) (v := ?va15) rfl (by kernel_rfl) (by kernel_rfl) (by kernel_rfl) (fun _ _ _ h => h) (Or.inl ⟨by rfl, ?ya15⟩) hHeld7 ?ra15; case ya15 => (intro w2 hSw; (try dsimp only at hSw); go_simp; try with_reducible rfl))
          (try simp only [Act.put, List.setIfInBounds_toArray, List.set_cons_zero, List.set_cons_succ])
          first
            | (refine wpAnyH_take (i := 16) (oi := { dst := some 30, op := Op.binOp BinOp.gtr 3 (Operand.tmp 29) (Operand.const (Value.int IntKind.i64 0)) 3, type := 4, pos := "wal.go:88", after := #[{ on := 15, ground := Ground.data }, { on := 14, ground := Ground.guard }], guard := some (14, false) }) (v := undef) rfl (by kernel_rfl) (by kernel_rfl) (by kernel_rfl) (fun _ _ _ h => h) (Or.inr ⟨by rfl, rfl⟩) hHeld7 ?_)
            | (refine wpAnyH_take (i := 16) (oi := { dst := some 30, op := Op.binOp BinOp.gtr 3 (Operand.tmp 29) (Operand.const (Value.int IntKind.i64 0)) 3, type := 4, pos := "wal.go:88", after := #[{ on := 15, ground := Ground.data }, { on := 14, ground := Ground.guard }], guard := some (14, false) }) (v := ?va16) rfl (by kernel_rfl) (by kernel_rfl) (by kernel_rfl) (fun _ _ _ h => h) (Or.inl ⟨by rfl, ?ya16⟩) hHeld7 ?ra16; case ya16 => (intro w2 hSw; (try dsimp only at hSw); go_simp; try with_reducible rfl))
          (try simp only [Act.put, List.setIfInBounds_toArray, List.set_cons_zero, List.set_cons_succ])
          first
            | (refine wpAnyH_take (i := 17) (oi := { dst := some 31, op := Op.move (Operand.tmp 30), type := 4, pos := "wal.go:88", after := #[{ on := 16, ground := Ground.data }, { on := 14, ground := Ground.chain }, { on := 14, ground := Ground.guard }], guard := some (14, false) }) (v := undef) rfl (by kernel_rfl) (by kernel_rfl) (by kernel_rfl) (fun _ _ _ h => h) (Or.inr ⟨by rfl, rfl⟩) hHeld7 ?_)
            | (refine wpAnyH_take (i := 17) (oi := { dst := some 31, op := Op.move (Operand.tmp 30), type := 4, pos := "wal.go:88", after := #[{ on := 16, ground := Ground.data }, { on := 14, ground := Ground.chain }, { on := 14, ground := Ground.guard }], guard := some (14, false) }) (v := ?va17) rfl (by kernel_rfl) (by kernel_rfl) (by kernel_rfl) (fun _ _ _ h => h) (Or.inl ⟨by rfl, ?ya17⟩) hHeld7 ?ra17; case ya17 => (intro w2 hSw; (try dsimp only at hSw); go_simp; try with_reducible rfl))
          (try simp only [Act.put, List.setIfInBounds_toArray, List.set_cons_zero, List.set_cons_succ])
          first
            | (refine wpAnyH_take (i := 18) (oi := { dst := some 32, op := Op.fieldAddr 38 (Operand.tmp 6) 0, type := 0, pos := "wal.go:88", after := #[{ on := 17, ground := Ground.guard }], guard := some (17, true) }) (v := undef) rfl (by kernel_rfl) (by kernel_rfl) (by kernel_rfl) (fun _ _ _ h => h) (Or.inr ⟨by rfl, rfl⟩) hHeld7 ?_)
            | (refine wpAnyH_take (i := 18) (oi := { dst := some 32, op := Op.fieldAddr 38 (Operand.tmp 6) 0, type := 0, pos := "wal.go:88", after := #[{ on := 17, ground := Ground.guard }], guard := some (17, true) }) (v := ?va18) rfl (by kernel_rfl) (by kernel_rfl) (by kernel_rfl) (fun _ _ _ h => h) (Or.inl ⟨by rfl, ?ya18⟩) hHeld7 ?ra18; case ya18 => (intro w2 hSw; (try dsimp only at hSw); go_simp; try with_reducible rfl))
          (try simp only [Act.put, List.setIfInBounds_toArray, List.set_cons_zero, List.set_cons_succ])
          first
            | (refine wpAnyH_take (i := 19) (oi := { dst := some 33, op := Op.load 3 (Operand.tmp 32), type := 3, pos := "wal.go:88", after := #[{ on := 18, ground := Ground.data }, { on := 17, ground := Ground.guard }], guard := some (17, true) }) (v := undef) rfl (by kernel_rfl) (by kernel_rfl) (by kernel_rfl) (fun _ _ _ h => h) (Or.inr ⟨by rfl, rfl⟩) hHeld7 ?_)
            | (refine wpAnyH_take (i := 19) (oi := { dst := some 33, op := Op.load 3 (Operand.tmp 32), type := 3, pos := "wal.go:88", after := #[{ on := 18, ground := Ground.data }, { on := 17, ground := Ground.guard }], guard := some (17, true) }) (v := ?va19) rfl (by kernel_rfl) (by kernel_rfl) (by kernel_rfl) (fun _ _ _ h => h) (Or.inl ⟨by rfl, ?ya19⟩) hHeld7 ?ra19; case ya19 => (intro w2 hSw; (try dsimp only at hSw); go_simp; try with_reducible rfl))
          (try simp only [Act.put, List.setIfInBounds_toArray, List.set_cons_zero, List.set_cons_succ])
          first
            | (refine wpAnyH_take (i := 20) (oi := { dst := some 34, op := Op.move (Operand.tmp 1), type := 30, pos := "wal.go:88", after := #[{ on := 17, ground := Ground.guard }], guard := some (17, true) }) (v := undef) rfl (by kernel_rfl) (by kernel_rfl) (by kernel_rfl) (fun _ _ _ h => h) (Or.inr ⟨by rfl, rfl⟩) hHeld7 ?_)
            | (refine wpAnyH_take (i := 20) (oi := { dst := some 34, op := Op.move (Operand.tmp 1), type := 30, pos := "wal.go:88", after := #[{ on := 17, ground := Ground.guard }], guard := some (17, true) }) (v := ?va20) rfl (by kernel_rfl) (by kernel_rfl) (by kernel_rfl) (fun _ _ _ h => h) (Or.inl ⟨by rfl, ?ya20⟩) hHeld7 ?ra20; case ya20 => (intro w2 hSw; (try dsimp only at hSw); go_simp; try with_reducible rfl))
          (try simp only [Act.put, List.setIfInBounds_toArray, List.set_cons_zero, List.set_cons_succ])
          first
            | (refine wpAnyH_take (i := 21) (oi := { dst := some 35, op := Op.move (Operand.tmp 5), type := 3, pos := "wal.go:88", after := #[{ on := 17, ground := Ground.guard }], guard := some (17, true) }) (v := undef) rfl (by kernel_rfl) (by kernel_rfl) (by kernel_rfl) (fun _ _ _ h => h) (Or.inr ⟨by rfl, rfl⟩) hHeld7 ?_)
            | (refine wpAnyH_take (i := 21) (oi := { dst := some 35, op := Op.move (Operand.tmp 5), type := 3, pos := "wal.go:88", after := #[{ on := 17, ground := Ground.guard }], guard := some (17, true) }) (v := ?va21) rfl (by kernel_rfl) (by kernel_rfl) (by kernel_rfl) (fun _ _ _ h => h) (Or.inl ⟨by rfl, ?ya21⟩) hHeld7 ?ra21; case ya21 => (intro w2 hSw; (try dsimp only at hSw); go_simp; try with_reducible rfl))
          (try simp only [Act.put, List.setIfInBounds_toArray, List.set_cons_zero, List.set_cons_succ])
          first
            | (refine wpAnyH_take (i := 22) (oi := { dst := some 36, op := Op.binOp BinOp.sub 3 (Operand.tmp 35) (Operand.const (Value.int IntKind.i64 1)) 3, type := 3, pos := "wal.go:88", after := #[{ on := 21, ground := Ground.data }, { on := 17, ground := Ground.guard }], guard := some (17, true) }) (v := undef) rfl (by kernel_rfl) (by kernel_rfl) (by kernel_rfl) (fun _ _ _ h => h) (Or.inr ⟨by rfl, rfl⟩) hHeld7 ?_)
            | (refine wpAnyH_take (i := 22) (oi := { dst := some 36, op := Op.binOp BinOp.sub 3 (Operand.tmp 35) (Operand.const (Value.int IntKind.i64 1)) 3, type := 3, pos := "wal.go:88", after := #[{ on := 21, ground := Ground.data }, { on := 17, ground := Ground.guard }], guard := some (17, true) }) (v := ?va22) rfl (by kernel_rfl) (by kernel_rfl) (by kernel_rfl) (fun _ _ _ h => h) (Or.inl ⟨by rfl, ?ya22⟩) hHeld7 ?ra22; case ya22 => (intro w2 hSw; (try dsimp only at hSw); go_simp; try with_reducible rfl))
          (try simp only [Act.put, List.setIfInBounds_toArray, List.set_cons_zero, List.set_cons_succ])
          first
            | (refine wpAnyH_take (i := 23) (oi := { dst := some 37, op := Op.indexAddr 30 (Operand.tmp 34) (Operand.tmp 36), type := 0, pos := "wal.go:88", after := #[{ on := 20, ground := Ground.data }, { on := 22, ground := Ground.data }, { on := 17, ground := Ground.guard }], guard := some (17, true) }) (v := undef) rfl (by kernel_rfl) (by kernel_rfl) (by kernel_rfl) (fun _ _ _ h => h) (Or.inr ⟨by rfl, rfl⟩) hHeld7 ?_)
            | (refine wpAnyH_take (i := 23) (oi := { dst := some 37, op := Op.indexAddr 30 (Operand.tmp 34) (Operand.tmp 36), type := 0, pos := "wal.go:88", after := #[{ on := 20, ground := Ground.data }, { on := 22, ground := Ground.data }, { on := 17, ground := Ground.guard }], guard := some (17, true) }) (v := ?va23) rfl (by kernel_rfl) (by kernel_rfl) (by kernel_rfl) (fun _ _ _ h => h) (Or.inl ⟨by rfl, ?ya23⟩) hHeld7 ?ra23; case ya23 => (intro w2 hSw; (try dsimp only at hSw); go_simp; try with_reducible rfl))
          (try simp only [Act.put, List.setIfInBounds_toArray, List.set_cons_zero, List.set_cons_succ])
          first
            | (refine wpAnyH_take (i := 24) (oi := { dst := some 38, op := Op.fieldAddr 38 (Operand.tmp 37) 0, type := 0, pos := "wal.go:88", after := #[{ on := 23, ground := Ground.data }, { on := 17, ground := Ground.guard }], guard := some (17, true) }) (v := undef) rfl (by kernel_rfl) (by kernel_rfl) (by kernel_rfl) (fun _ _ _ h => h) (Or.inr ⟨by rfl, rfl⟩) hHeld7 ?_)
            | (refine wpAnyH_take (i := 24) (oi := { dst := some 38, op := Op.fieldAddr 38 (Operand.tmp 37) 0, type := 0, pos := "wal.go:88", after := #[{ on := 23, ground := Ground.data }, { on := 17, ground := Ground.guard }], guard := some (17, true) }) (v := ?va24) rfl (by kernel_rfl) (by kernel_rfl) (by kernel_rfl) (fun _ _ _ h => h) (Or.inl ⟨by rfl, ?ya24⟩) hHeld7 ?ra24; case ya24 => (intro w2 hSw; (try dsimp only at hSw); go_simp; try with_reducible rfl))
          (try simp only [Act.put, List.setIfInBounds_toArray, List.set_cons_zero, List.set_cons_succ])
          first
            | (refine wpAnyH_take (i := 25) (oi := { dst := some 39, op := Op.load 3 (Operand.tmp 38), type := 3, pos := "wal.go:88", after := #[{ on := 24, ground := Ground.data }, { on := 17, ground := Ground.guard }], guard := some (17, true) }) (v := undef) rfl (by kernel_rfl) (by kernel_rfl) (by kernel_rfl) (fun _ _ _ h => h) (Or.inr ⟨by rfl, rfl⟩) hHeld7 ?_)
            | (refine wpAnyH_take (i := 25) (oi := { dst := some 39, op := Op.load 3 (Operand.tmp 38), type := 3, pos := "wal.go:88", after := #[{ on := 24, ground := Ground.data }, { on := 17, ground := Ground.guard }], guard := some (17, true) }) (v := ?va25) rfl (by kernel_rfl) (by kernel_rfl) (by kernel_rfl) (fun _ _ _ h => h) (Or.inl ⟨by rfl, ?ya25⟩) hHeld7 ?ra25; case ya25 => (intro w2 hSw; (try dsimp only at hSw); go_simp; try with_reducible rfl))
          (try simp only [Act.put, List.setIfInBounds_toArray, List.set_cons_zero, List.set_cons_succ])
          first
            | (refine wpAnyH_take (i := 26) (oi := { dst := some 40, op := Op.binOp BinOp.eql 3 (Operand.tmp 33) (Operand.tmp 39) 3, type := 4, pos := "wal.go:88", after := #[{ on := 19, ground := Ground.data }, { on := 25, ground := Ground.data }, { on := 17, ground := Ground.guard }], guard := some (17, true) }) (v := undef) rfl (by kernel_rfl) (by kernel_rfl) (by kernel_rfl) (fun _ _ _ h => h) (Or.inr ⟨by rfl, rfl⟩) hHeld7 ?_)
            | (refine wpAnyH_take (i := 26) (oi := { dst := some 40, op := Op.binOp BinOp.eql 3 (Operand.tmp 33) (Operand.tmp 39) 3, type := 4, pos := "wal.go:88", after := #[{ on := 19, ground := Ground.data }, { on := 25, ground := Ground.data }, { on := 17, ground := Ground.guard }], guard := some (17, true) }) (v := ?va26) rfl (by kernel_rfl) (by kernel_rfl) (by kernel_rfl) (fun _ _ _ h => h) (Or.inl ⟨by rfl, ?ya26⟩) hHeld7 ?ra26; case ya26 => (intro w2 hSw; (try dsimp only at hSw); go_simp; try with_reducible rfl))
          (try simp only [Act.put, List.setIfInBounds_toArray, List.set_cons_zero, List.set_cons_succ])
          first
            | (refine wpAnyH_take (i := 27) (oi := { dst := some 41, op := Op.pick (Operand.tmp 31) (Operand.tmp 40) (Operand.const (Value.bool false)), type := 4, pos := "wal.go:88", after := #[{ on := 17, ground := Ground.data }, { on := 26, ground := Ground.data }, { on := 14, ground := Ground.guard }], guard := some (14, false) }) (v := undef) rfl (by kernel_rfl) (by kernel_rfl) (by kernel_rfl) (fun _ _ _ h => h) (Or.inr ⟨by rfl, rfl⟩) hHeld7 ?_)
            | (refine wpAnyH_take (i := 27) (oi := { dst := some 41, op := Op.pick (Operand.tmp 31) (Operand.tmp 40) (Operand.const (Value.bool false)), type := 4, pos := "wal.go:88", after := #[{ on := 17, ground := Ground.data }, { on := 26, ground := Ground.data }, { on := 14, ground := Ground.guard }], guard := some (14, false) }) (v := ?va27) rfl (by kernel_rfl) (by kernel_rfl) (by kernel_rfl) (fun _ _ _ h => h) (Or.inl ⟨by rfl, ?ya27⟩) hHeld7 ?ra27; case ya27 => (intro w2 hSw; (try dsimp only at hSw); go_simp; try with_reducible rfl))
          (try simp only [Act.put, List.setIfInBounds_toArray, List.set_cons_zero, List.set_cons_succ])
          refine wpAnyH_take (i := 28) (oi := { dst := some 42, op := Op.pick (Operand.tmp 28) (Operand.const (Value.bool true)) (Operand.tmp 41), type := 4, pos := "wal.go:88", after := #[{ on := 14, ground := Ground.data }, { on := 27, ground := Ground.data }], guard := none }) (v := ?va28) rfl (by kernel_rfl) (by kernel_rfl) (by kernel_rfl) (fun _ _ _ h => h) (Or.inl ⟨by rfl, ?ya28⟩) hHeld7 ?ra28
          case ya28 => (intro w2 hSw; (try dsimp only at hSw); go_simp; try with_reducible rfl)
          (try simp only [Act.put, List.setIfInBounds_toArray, List.set_cons_zero, List.set_cons_succ])
          refine wpAnyH_done (by kernel_rfl) ?_ _
          all_goals
            go_wp2_with fail
            go_roundw
            case rel => exact ⟨k + 1, by omega, by go_num, H7.out.1, HGOOD.out⟩
            case measure => simp [intOf]; omega
        · have hkn : 0 < k := by omega
          obtain ⟨yv, hyv⟩ : ∃ yv, yv = y.1 := ⟨_, rfl⟩
          have HJ := Lib.hid (⟨hj, hyv.symm⟩ : _ ∧ _)
          have hj0 : (0 : Int) ≤ j := by omega
          rw [← hyv] at hpr
          by_cases hq : yv = xv
          · have HBAD := Lib.hid (show badF lo N none l = true by rw [HBD.out, HHB, hpr, hq]; simp)
            have hqb : xv = yv := hq.symm
            clear hpr hx hkl HBD hh hj hyv hq
            subst hqb
            go_region_held3 (fun w' => w'.cell? ⟨wb, 0, none⟩ = some (.pointer (some ⟨pb, 0, none⟩)) ∧ w'.cell? ⟨wb, 1, none⟩ = some (.int .i64 (at_ : Int)) ∧ w'.cell? ⟨wb, 2, none⟩ = some (.int .i64 (rc : Int)) ∧ w'.cell? ⟨gx, 0, none⟩ = some (.int .i64 xv) ∧ w'.cell? ⟨gx, 1, none⟩ = some (.slice (some ⟨b, o, none⟩) 256 c) ∧ w'.cell? ⟨blk, off + j * 2, none⟩ = some (.int .i64 xv))
            (first
              | exact hid2 (rsHeld2 (HX.out.1.calm (Fr.refl _ _).drew) HX.out.2 HJ.out.1) HJ.out.2
              | exact hid2 (rsHeld2 H7.out.1 H7.out.2 HJ.out.1) HJ.out.2)
            (first
              | (go_at_call 53; (refine (HIH.out _ xv (HX.out.1.calm (Fr.refl _ _).drew)).mono ?_); rintro e w7 ⟨rfl, hF7⟩; have H7 := Lib.hid (⟨(HX.out.1.calm (Fr.refl _ _).drew).calm hF7, (hF7.block _ (Array.getElem?_eq_some_iff.1 HX.out.2).1 id).trans HX.out.2⟩ : Rs w0 w pb N B d wb at_ rc t0 sp (some ⟨blk, off, none⟩) l w7 ∧ w7.heap[gx]? = some (.cells #[.int .i64 xv, .slice (some ⟨b, o, none⟩) 256 c] 38 (0, 0))); rw [HHB]; clear hF7))
            all_goals
              go_wp2_with fail
              go_ret
              rw [refR, HBAD.out]
              exact ⟨rfl, H7.out.1.fr⟩
          · have HGOOD := Lib.hid (show badF lo N none l = badF lo N (prevOf l (k + 1)) (l.drop (k + 1)) by rw [HBD.out, HHB, hpr]; simp [hq])
            have hqb : ¬ xv = yv := fun e => hq e.symm
            clear hpr hx hkl HBD hh hj hyv hq
            go_region_held3 (fun w' => w'.cell? ⟨wb, 0, none⟩ = some (.pointer (some ⟨pb, 0, none⟩)) ∧ w'.cell? ⟨wb, 1, none⟩ = some (.int .i64 (at_ : Int)) ∧ w'.cell? ⟨wb, 2, none⟩ = some (.int .i64 (rc : Int)) ∧ w'.cell? ⟨gx, 0, none⟩ = some (.int .i64 xv) ∧ w'.cell? ⟨gx, 1, none⟩ = some (.slice (some ⟨b, o, none⟩) 256 c) ∧ w'.cell? ⟨blk, off + j * 2, none⟩ = some (.int .i64 yv))
            (first
              | exact hid2 (rsHeld2 (HX.out.1.calm (Fr.refl _ _).drew) HX.out.2 HJ.out.1) HJ.out.2
              | exact hid2 (rsHeld2 H7.out.1 H7.out.2 HJ.out.1) HJ.out.2)
            (first
              | (go_at_call 53; (refine (HIH.out _ xv (HX.out.1.calm (Fr.refl _ _).drew)).mono ?_); rintro e w7 ⟨rfl, hF7⟩; have H7 := Lib.hid (⟨(HX.out.1.calm (Fr.refl _ _).drew).calm hF7, (hF7.block _ (Array.getElem?_eq_some_iff.1 HX.out.2).1 id).trans HX.out.2⟩ : Rs w0 w pb N B d wb at_ rc t0 sp (some ⟨blk, off, none⟩) l w7 ∧ w7.heap[gx]? = some (.cells #[.int .i64 xv, .slice (some ⟨b, o, none⟩) 256 c] 38 (0, 0))); rw [HHB]; clear hF7))
            all_goals
              go_wp2_with fail
              go_roundw
              case rel => exact ⟨k + 1, by omega, by go_num, H7.out.1, HGOOD.out⟩
              case measure => simp [intOf]; omega
      · have HHB : (decide (lo ≤ xv) && decide (xv < (N : Int))) = false := by simp; omega
        have HBAD := Lib.hid (show badF lo N none l = true by rw [HBD.out, HHB]; simp)
        clear hx hkl HBD hh
        refine wp_region_held_drew (S := fun w' => w'.cell? ⟨wb, 0, none⟩ = some (.pointer (some ⟨pb, 0, none⟩)) ∧ w'.cell? ⟨wb, 1, none⟩ = some (.int .i64 (at_ : Int)) ∧ w'.cell? ⟨wb, 2, none⟩ = some (.int .i64 (rc : Int)) ∧ w'.cell? ⟨gx, 0, none⟩ = some (.int .i64 xv) ∧ w'.cell? ⟨gx, 1, none⟩ = some (.slice (some ⟨b, o, none⟩) 256 c)) (by kernel_rfl) (by exact rsHeld (HX.out.1.calm (Fr.refl _ _).drew) HX.out.2) (fun hHeld => ?_)
        refine wpAnyH_take (i := 0) (oi := { dst := some 14, op := Op.move (Operand.tmp 0), type := 27, pos := "wal.go:88", after := #[], guard := none }) (v := ?vd0) rfl (by kernel_rfl) (by kernel_rfl) (by kernel_rfl) (fun _ _ _ h => h) (Or.inl ⟨by rfl, ?yd0⟩) hHeld ?rd0
        case yd0 => (intro w2 hSw; (try dsimp only at hSw); go_simp; try with_reducible rfl)
        (try simp only [Act.put, List.setIfInBounds_toArray, List.set_cons_zero, List.set_cons_succ])
        refine wpAnyH_take (i := 1) (oi := { dst := some 15, op := Op.nilCheck (Operand.tmp 14), type := 0, pos := "wal.go:88", after := #[{ on := 0, ground := Ground.data }], guard := none }) (v := ?vd1) rfl (by kernel_rfl) (by kernel_rfl) (by kernel_rfl) (fun _ _ _ h => h) (Or.inl ⟨by rfl, ?yd1⟩) hHeld ?rd1
        case yd1 => (intro w2 hSw; (try dsimp only at hSw); go_simp; try with_reducible rfl)
        (try simp only [Act.put, List.setIfInBounds_toArray, List.set_cons_zero, List.set_cons_succ])
        refine wpAnyH_take (i := 2) (oi := { dst := some 16, op := Op.fieldAddr 74 (Operand.tmp 15) 0, type := 0, pos := "wal.go:88", after := #[{ on := 1, ground := Ground.data }], guard := none }) (v := ?vd2) rfl (by kernel_rfl) (by kernel_rfl) (by kernel_rfl) (fun _ _ _ h => h) (Or.inl ⟨by rfl, ?yd2⟩) hHeld ?rd2
        case yd2 => (intro w2 hSw; (try dsimp only at hSw); go_simp; try with_reducible rfl)
        (try simp only [Act.put, List.setIfInBounds_toArray, List.set_cons_zero, List.set_cons_succ])
        refine wpAnyH_take (i := 3) (oi := { dst := some 17, op := Op.load 72 (Operand.tmp 16), type := 72, pos := "wal.go:88", after := #[{ on := 2, ground := Ground.data }], guard := none }) (v := ?vd3) rfl (by kernel_rfl) (by kernel_rfl) (by kernel_rfl) (fun _ _ _ h => h) (Or.inl ⟨by rfl, ?yd3⟩) hHeld ?rd3
        case yd3 => (intro w2 hSw; (try dsimp only at hSw); go_simp; try with_reducible rfl)
        (try simp only [Act.put, List.setIfInBounds_toArray, List.set_cons_zero, List.set_cons_succ])
        refine wpAnyH_take (i := 4) (oi := { dst := some 18, op := Op.fieldAddr 38 (Operand.tmp 6) 0, type := 0, pos := "wal.go:88", after := #[], guard := none }) (v := ?vd4) rfl (by kernel_rfl) (by kernel_rfl) (by kernel_rfl) (fun _ _ _ h => h) (Or.inl ⟨by rfl, ?yd4⟩) hHeld ?rd4
        case yd4 => (intro w2 hSw; (try dsimp only at hSw); go_simp; try with_reducible rfl)
        (try simp only [Act.put, List.setIfInBounds_toArray, List.set_cons_zero, List.set_cons_succ])
        refine wpAnyH_take (i := 5) (oi := { dst := some 19, op := Op.load 3 (Operand.tmp 18), type := 3, pos := "wal.go:88", after := #[{ on := 4, ground := Ground.data }], guard := none }) (v := ?vd5) rfl (by kernel_rfl) (by kernel_rfl) (by kernel_rfl) (fun _ _ _ h => h) (Or.inl ⟨by rfl, ?yd5⟩) hHeld ?rd5
        case yd5 => (intro w2 hSw; (try dsimp only at hSw); go_simp; try with_reducible rfl)
        (try simp only [Act.put, List.setIfInBounds_toArray, List.set_cons_zero, List.set_cons_succ])
        refine wpAnyH_ready (rs := [6]) (by kernel_rfl) (by simp) (AllReadyH.cons (o := { dst := some 20, op := Op.call { callee := Callee.value (Operand.func 53), args := #[Operand.tmp 17, Operand.tmp 19], argTypes := #[72, 3] }, type := 4, pos := "wal.go:88", after := #[{ on := 3, ground := Ground.data }, { on := 5, ground := Ground.data }], guard := none }) rfl (fun K hK => ?_) AllReadyH.nil)
        go_simp
        go_at_call 53
        refine (HIH.out _ xv (HX.out.1.calm (Fr.refl _ _).drew)).mono ?_
        rintro e w7 ⟨rfl, hF7⟩
        have H7 := Lib.hid (⟨(HX.out.1.calm (Fr.refl _ _).drew).calm hF7, (hF7.block _ (Array.getElem?_eq_some_iff.1 HX.out.2).1 id).trans HX.out.2⟩ : Rs w0 w pb N B d wb at_ rc t0 sp (some ⟨blk, off, none⟩) l w7 ∧ w7.heap[gx]? = some (.cells #[.int .i64 xv, .slice (some ⟨b, o, none⟩) 256 c] 38 (0, 0)))
        rw [HHB]
        clear hF7
        refine hK.out _ _ (by exact rsHeld H7.out.1 H7.out.2) (fun hHeld7 => ?_)
        clear hK K hHeld
        refine wpAnyH_take (i := 7) (oi := { dst := some 21, op := Op.unOp UnOp.not 4 (Operand.tmp 20), type := 4, pos := "wal.go:88", after := #[{ on := 6, ground := Ground.data }], guard := none }) (v := ?vd7) rfl (by kernel_rfl) (by kernel_rfl) (by kernel_rfl) (fun _ _ _ h => h) (Or.inl ⟨by rfl, ?yd7⟩) hHeld7 ?rd7
        case yd7 => (intro w2 hSw; (try dsimp only at hSw); go_simp; try with_reducible rfl)
        (try simp only [Act.put, List.setIfInBounds_toArray, List.set_cons_zero, List.set_cons_succ])
        refine wpAnyH_take (i := 8) (oi := { dst := some 22, op := Op.move (Operand.tmp 21), type := 4, pos := "wal.go:88", after := #[{ on := 7, ground := Ground.data }, { on := 6, ground := Ground.chain }], guard := none }) (v := ?vd8) rfl (by kernel_rfl) (by kernel_rfl) (by kernel_rfl) (fun _ _ _ h => h) (Or.inl ⟨by rfl, ?yd8⟩) hHeld7 ?rd8
        case yd8 => (intro w2 hSw; (try dsimp only at hSw); go_simp; try with_reducible rfl)
        (try simp only [Act.put, List.setIfInBounds_toArray, List.set_cons_zero, List.set_cons_succ])
        first
          | (refine wpAnyH_take (i := 9) (oi := { dst := some 23, op := Op.fieldAddr 38 (Operand.tmp 6) 1, type := 0, pos := "wal.go:88", after := #[{ on := 8, ground := Ground.guard }], guard := some (8, false) }) (v := undef) rfl (by kernel_rfl) (by kernel_rfl) (by kernel_rfl) (fun _ _ _ h => h) (Or.inr ⟨by rfl, rfl⟩) hHeld7 ?_)
          | (refine wpAnyH_take (i := 9) (oi := { dst := some 23, op := Op.fieldAddr 38 (Operand.tmp 6) 1, type := 0, pos := "wal.go:88", after := #[{ on := 8, ground := Ground.guard }], guard := some (8, false) }) (v := ?vd9) rfl (by kernel_rfl) (by kernel_rfl) (by kernel_rfl) (fun _ _ _ h => h) (Or.inl ⟨by rfl, ?yd9⟩) hHeld7 ?rd9; case yd9 => (intro w2 hSw; (try dsimp only at hSw); go_simp; try with_reducible rfl))
        (try simp only [Act.put, List.setIfInBounds_toArray, List.set_cons_zero, List.set_cons_succ])
        first
          | (refine wpAnyH_take (i := 10) (oi := { dst := some 24, op := Op.load 33 (Operand.tmp 23), type := 33, pos := "wal.go:88", after := #[{ on := 9, ground := Ground.data }, { on := 8, ground := Ground.guard }], guard := some (8, false) }) (v := undef) rfl (by kernel_rfl) (by kernel_rfl) (by kernel_rfl) (fun _ _ _ h => h) (Or.inr ⟨by rfl, rfl⟩) hHeld7 ?_)
          | (refine wpAnyH_take (i := 10) (oi := { dst := some 24, op := Op.load 33 (Operand.tmp 23), type := 33, pos := "wal.go:88", after := #[{ on := 9, ground := Ground.data }, { on := 8, ground := Ground.guard }], guard := some (8, false) }) (v := ?vd10) rfl (by kernel_rfl) (by kernel_rfl) (by kernel_rfl) (fun _ _ _ h => h) (Or.inl ⟨by rfl, ?yd10⟩) hHeld7 ?rd10; case yd10 => (intro w2 hSw; (try dsimp only at hSw); go_simp; try with_reducible rfl))
        (try simp only [Act.put, List.setIfInBounds_toArray, List.set_cons_zero, List.set_cons_succ])
        first
          | (refine wpAnyH_take (i := 11) (oi := { dst := some 25, op := Op.call { callee := Callee.builtin Builtin.len, args := #[Operand.tmp 24], argTypes := #[33] }, type := 3, pos := "wal.go:88", after := #[{ on := 10, ground := Ground.data }, { on := 8, ground := Ground.guard }], guard := some (8, false) }) (v := undef) rfl (by kernel_rfl) (by kernel_rfl) (by kernel_rfl) (fun _ _ _ h => h) (Or.inr ⟨by rfl, rfl⟩) hHeld7 ?_)
          | (refine wpAnyH_take (i := 11) (oi := { dst := some 25, op := Op.call { callee := Callee.builtin Builtin.len, args := #[Operand.tmp 24], argTypes := #[33] }, type := 3, pos := "wal.go:88", after := #[{ on := 10, ground := Ground.data }, { on := 8, ground := Ground.guard }], guard := some (8, false) }) (v := ?vd11) rfl (by kernel_rfl) (by kernel_rfl) (by kernel_rfl) (fun _ _ _ h => h) (Or.inl ⟨by rfl, ?yd11⟩) hHeld7 ?rd11; case yd11 => (intro w2 hSw; (try dsimp only at hSw); go_simp; try with_reducible rfl))
        (try simp only [Act.put, List.setIfInBounds_toArray, List.set_cons_zero, List.set_cons_succ])
        first
          | (refine wpAnyH_take (i := 12) (oi := { dst := some 26, op := Op.binOp BinOp.neq 3 (Operand.tmp 25) (Operand.const (Value.int IntKind.i64 256)) 3, type := 4, pos := "wal.go:88", after := #[{ on := 11, ground := Ground.data }, { on := 8, ground := Ground.guard }], guard := some (8, false) }) (v := undef) rfl (by kernel_rfl) (by kernel_rfl) (by kernel_rfl) (fun _ _ _ h => h) (Or.inr ⟨by rfl, rfl⟩) hHeld7 ?_)
          | (refine wpAnyH_take (i := 12) (oi := { dst := some 26, op := Op.binOp BinOp.neq 3 (Operand.tmp 25) (Operand.const (Value.int IntKind.i64 256)) 3, type := 4, pos := "wal.go:88", after := #[{ on := 11, ground := Ground.data }, { on := 8, ground := Ground.guard }], guard := some (8, false) }) (v := ?vd12) rfl (by kernel_rfl) (by kernel_rfl) (by kernel_rfl) (fun _ _ _ h => h) (Or.inl ⟨by rfl, ?yd12⟩) hHeld7 ?rd12; case yd12 => (intro w2 hSw; (try dsimp only at hSw); go_simp; try with_reducible rfl))
        (try simp only [Act.put, List.setIfInBounds_toArray, List.set_cons_zero, List.set_cons_succ])
        refine wpAnyH_take (i := 13) (oi := { dst := some 27, op := Op.pick (Operand.tmp 22) (Operand.const (Value.bool true)) (Operand.tmp 26), type := 4, pos := "wal.go:88", after := #[{ on := 8, ground := Ground.data }, { on := 12, ground := Ground.data }], guard := none }) (v := ?vd13) rfl (by kernel_rfl) (by kernel_rfl) (by kernel_rfl) (fun _ _ _ h => h) (Or.inl ⟨by rfl, ?yd13⟩) hHeld7 ?rd13
        case yd13 => (intro w2 hSw; (try dsimp only at hSw); go_simp; try with_reducible rfl)
        (try simp only [Act.put, List.setIfInBounds_toArray, List.set_cons_zero, List.set_cons_succ])
        refine wpAnyH_take (i := 14) (oi := { dst := some 28, op := Op.move (Operand.tmp 27), type := 4, pos := "wal.go:88", after := #[{ on := 13, ground := Ground.data }, { on := 8, ground := Ground.chain }], guard := none }) (v := ?vd14) rfl (by kernel_rfl) (by kernel_rfl) (by kernel_rfl) (fun _ _ _ h => h) (Or.inl ⟨by rfl, ?yd14⟩) hHeld7 ?rd14
        case yd14 => (intro w2 hSw; (try dsimp only at hSw); go_simp; try with_reducible rfl)
        (try simp only [Act.put, List.setIfInBounds_toArray, List.set_cons_zero, List.set_cons_succ])
        first
          | (refine wpAnyH_take (i := 15) (oi := { dst := some 29, op := Op.move (Operand.tmp 5), type := 3, pos := "wal.go:88", after := #[{ on := 14, ground := Ground.guard }], guard := some (14, false) }) (v := undef) rfl (by kernel_rfl) (by kernel_rfl) (by kernel_rfl) (fun _ _ _ h => h) (Or.inr ⟨by rfl, rfl⟩) hHeld7 ?_)
          | (refine wpAnyH_take (i := 15) (oi := { dst := some 29, op := Op.move (Operand.tmp 5), type := 3, pos := "wal.go:88", after := #[{ on := 14, ground := Ground.guard }], guard := some (14, false) }) (v := ?vd15) rfl (by kernel_rfl) (by kernel_rfl) (by kernel_rfl) (fun _ _ _ h => h) (Or.inl ⟨by rfl, ?yd15⟩) hHeld7 ?rd15; case yd15 => (intro w2 hSw; (try dsimp only at hSw); go_simp; try with_reducible rfl))
        (try simp only [Act.put, List.setIfInBounds_toArray, List.set_cons_zero, List.set_cons_succ])
        first
          | (refine wpAnyH_take (i := 16) (oi := { dst := some 30, op := Op.binOp BinOp.gtr 3 (Operand.tmp 29) (Operand.const (Value.int IntKind.i64 0)) 3, type := 4, pos := "wal.go:88", after := #[{ on := 15, ground := Ground.data }, { on := 14, ground := Ground.guard }], guard := some (14, false) }) (v := undef) rfl (by kernel_rfl) (by kernel_rfl) (by kernel_rfl) (fun _ _ _ h => h) (Or.inr ⟨by rfl, rfl⟩) hHeld7 ?_)
          | (refine wpAnyH_take (i := 16) (oi := { dst := some 30, op := Op.binOp BinOp.gtr 3 (Operand.tmp 29) (Operand.const (Value.int IntKind.i64 0)) 3, type := 4, pos := "wal.go:88", after := #[{ on := 15, ground := Ground.data }, { on := 14, ground := Ground.guard }], guard := some (14, false) }) (v := ?vd16) rfl (by kernel_rfl) (by kernel_rfl) (by kernel_rfl) (fun _ _ _ h => h) (Or.inl ⟨by rfl, ?yd16⟩) hHeld7 ?rd16; case yd16 => (intro w2 hSw; (try dsimp only at hSw); go_simp; try with_reducible rfl))
        (try simp only [Act.put, List.setIfInBounds_toArray, List.set_cons_zero, List.set_cons_succ])
        first
          | (refine wpAnyH_take (i := 17) (oi := { dst := some 31, op := Op.move (Operand.tmp 30), type := 4, pos := "wal.go:88", after := #[{ on := 16, ground := Ground.data }, { on := 14, ground := Ground.chain }, { on := 14, ground := Ground.guard }], guard := some (14, false) }) (v := undef) rfl (by kernel_rfl) (by kernel_rfl) (by kernel_rfl) (fun _ _ _ h => h) (Or.inr ⟨by rfl, rfl⟩) hHeld7 ?_)
          | (refine wpAnyH_take (i := 17) (oi := { dst := some 31, op := Op.move (Operand.tmp 30), type := 4, pos := "wal.go:88", after := #[{ on := 16, ground := Ground.data }, { on := 14, ground := Ground.chain }, { on := 14, ground := Ground.guard }], guard := some (14, false) }) (v := ?vd17) rfl (by kernel_rfl) (by kernel_rfl) (by kernel_rfl) (fun _ _ _ h => h) (Or.inl ⟨by rfl, ?yd17⟩) hHeld7 ?rd17; case yd17 => (intro w2 hSw; (try dsimp only at hSw); go_simp; try with_reducible rfl))
        (try simp only [Act.put, List.setIfInBounds_toArray, List.set_cons_zero, List.set_cons_succ])
        first
          | (refine wpAnyH_take (i := 18) (oi := { dst := some 32, op := Op.fieldAddr 38 (Operand.tmp 6) 0, type := 0, pos := "wal.go:88", after := #[{ on := 17, ground := Ground.guard }], guard := some (17, true) }) (v := undef) rfl (by kernel_rfl) (by kernel_rfl) (by kernel_rfl) (fun _ _ _ h => h) (Or.inr ⟨by rfl, rfl⟩) hHeld7 ?_)
          | (refine wpAnyH_take (i := 18) (oi := { dst := some 32, op := Op.fieldAddr 38 (Operand.tmp 6) 0, type := 0, pos := "wal.go:88", after := #[{ on := 17, ground := Ground.guard }], guard := some (17, true) }) (v := ?vd18) rfl (by kernel_rfl) (by kernel_rfl) (by kernel_rfl) (fun _ _ _ h => h) (Or.inl ⟨by rfl, ?yd18⟩) hHeld7 ?rd18; case yd18 => (intro w2 hSw; (try dsimp only at hSw); go_simp; try with_reducible rfl))
        (try simp only [Act.put, List.setIfInBounds_toArray, List.set_cons_zero, List.set_cons_succ])
        first
          | (refine wpAnyH_take (i := 19) (oi := { dst := some 33, op := Op.load 3 (Operand.tmp 32), type := 3, pos := "wal.go:88", after := #[{ on := 18, ground := Ground.data }, { on := 17, ground := Ground.guard }], guard := some (17, true) }) (v := undef) rfl (by kernel_rfl) (by kernel_rfl) (by kernel_rfl) (fun _ _ _ h => h) (Or.inr ⟨by rfl, rfl⟩) hHeld7 ?_)
          | (refine wpAnyH_take (i := 19) (oi := { dst := some 33, op := Op.load 3 (Operand.tmp 32), type := 3, pos := "wal.go:88", after := #[{ on := 18, ground := Ground.data }, { on := 17, ground := Ground.guard }], guard := some (17, true) }) (v := ?vd19) rfl (by kernel_rfl) (by kernel_rfl) (by kernel_rfl) (fun _ _ _ h => h) (Or.inl ⟨by rfl, ?yd19⟩) hHeld7 ?rd19; case yd19 => (intro w2 hSw; (try dsimp only at hSw); go_simp; try with_reducible rfl))
        (try simp only [Act.put, List.setIfInBounds_toArray, List.set_cons_zero, List.set_cons_succ])
        first
          | (refine wpAnyH_take (i := 20) (oi := { dst := some 34, op := Op.move (Operand.tmp 1), type := 30, pos := "wal.go:88", after := #[{ on := 17, ground := Ground.guard }], guard := some (17, true) }) (v := undef) rfl (by kernel_rfl) (by kernel_rfl) (by kernel_rfl) (fun _ _ _ h => h) (Or.inr ⟨by rfl, rfl⟩) hHeld7 ?_)
          | (refine wpAnyH_take (i := 20) (oi := { dst := some 34, op := Op.move (Operand.tmp 1), type := 30, pos := "wal.go:88", after := #[{ on := 17, ground := Ground.guard }], guard := some (17, true) }) (v := ?vd20) rfl (by kernel_rfl) (by kernel_rfl) (by kernel_rfl) (fun _ _ _ h => h) (Or.inl ⟨by rfl, ?yd20⟩) hHeld7 ?rd20; case yd20 => (intro w2 hSw; (try dsimp only at hSw); go_simp; try with_reducible rfl))
        (try simp only [Act.put, List.setIfInBounds_toArray, List.set_cons_zero, List.set_cons_succ])
        first
          | (refine wpAnyH_take (i := 21) (oi := { dst := some 35, op := Op.move (Operand.tmp 5), type := 3, pos := "wal.go:88", after := #[{ on := 17, ground := Ground.guard }], guard := some (17, true) }) (v := undef) rfl (by kernel_rfl) (by kernel_rfl) (by kernel_rfl) (fun _ _ _ h => h) (Or.inr ⟨by rfl, rfl⟩) hHeld7 ?_)
          | (refine wpAnyH_take (i := 21) (oi := { dst := some 35, op := Op.move (Operand.tmp 5), type := 3, pos := "wal.go:88", after := #[{ on := 17, ground := Ground.guard }], guard := some (17, true) }) (v := ?vd21) rfl (by kernel_rfl) (by kernel_rfl) (by kernel_rfl) (fun _ _ _ h => h) (Or.inl ⟨by rfl, ?yd21⟩) hHeld7 ?rd21; case yd21 => (intro w2 hSw; (try dsimp only at hSw); go_simp; try with_reducible rfl))
        (try simp only [Act.put, List.setIfInBounds_toArray, List.set_cons_zero, List.set_cons_succ])
        first
          | (refine wpAnyH_take (i := 22) (oi := { dst := some 36, op := Op.binOp BinOp.sub 3 (Operand.tmp 35) (Operand.const (Value.int IntKind.i64 1)) 3, type := 3, pos := "wal.go:88", after := #[{ on := 21, ground := Ground.data }, { on := 17, ground := Ground.guard }], guard := some (17, true) }) (v := undef) rfl (by kernel_rfl) (by kernel_rfl) (by kernel_rfl) (fun _ _ _ h => h) (Or.inr ⟨by rfl, rfl⟩) hHeld7 ?_)
          | (refine wpAnyH_take (i := 22) (oi := { dst := some 36, op := Op.binOp BinOp.sub 3 (Operand.tmp 35) (Operand.const (Value.int IntKind.i64 1)) 3, type := 3, pos := "wal.go:88", after := #[{ on := 21, ground := Ground.data }, { on := 17, ground := Ground.guard }], guard := some (17, true) }) (v := ?vd22) rfl (by kernel_rfl) (by kernel_rfl) (by kernel_rfl) (fun _ _ _ h => h) (Or.inl ⟨by rfl, ?yd22⟩) hHeld7 ?rd22; case yd22 => (intro w2 hSw; (try dsimp only at hSw); go_simp; try with_reducible rfl))
        (try simp only [Act.put, List.setIfInBounds_toArray, List.set_cons_zero, List.set_cons_succ])
        first
          | (refine wpAnyH_take (i := 23) (oi := { dst := some 37, op := Op.indexAddr 30 (Operand.tmp 34) (Operand.tmp 36), type := 0, pos := "wal.go:88", after := #[{ on := 20, ground := Ground.data }, { on := 22, ground := Ground.data }, { on := 17, ground := Ground.guard }], guard := some (17, true) }) (v := undef) rfl (by kernel_rfl) (by kernel_rfl) (by kernel_rfl) (fun _ _ _ h => h) (Or.inr ⟨by rfl, rfl⟩) hHeld7 ?_)
          | (refine wpAnyH_take (i := 23) (oi := { dst := some 37, op := Op.indexAddr 30 (Operand.tmp 34) (Operand.tmp 36), type := 0, pos := "wal.go:88", after := #[{ on := 20, ground := Ground.data }, { on := 22, ground := Ground.data }, { on := 17, ground := Ground.guard }], guard := some (17, true) }) (v := ?vd23) rfl (by kernel_rfl) (by kernel_rfl) (by kernel_rfl) (fun _ _ _ h => h) (Or.inl ⟨by rfl, ?yd23⟩) hHeld7 ?rd23; case yd23 => (intro w2 hSw; (try dsimp only at hSw); go_simp; try with_reducible rfl))
        (try simp only [Act.put, List.setIfInBounds_toArray, List.set_cons_zero, List.set_cons_succ])
        first
          | (refine wpAnyH_take (i := 24) (oi := { dst := some 38, op := Op.fieldAddr 38 (Operand.tmp 37) 0, type := 0, pos := "wal.go:88", after := #[{ on := 23, ground := Ground.data }, { on := 17, ground := Ground.guard }], guard := some (17, true) }) (v := undef) rfl (by kernel_rfl) (by kernel_rfl) (by kernel_rfl) (fun _ _ _ h => h) (Or.inr ⟨by rfl, rfl⟩) hHeld7 ?_)
          | (refine wpAnyH_take (i := 24) (oi := { dst := some 38, op := Op.fieldAddr 38 (Operand.tmp 37) 0, type := 0, pos := "wal.go:88", after := #[{ on := 23, ground := Ground.data }, { on := 17, ground := Ground.guard }], guard := some (17, true) }) (v := ?vd24) rfl (by kernel_rfl) (by kernel_rfl) (by kernel_rfl) (fun _ _ _ h => h) (Or.inl ⟨by rfl, ?yd24⟩) hHeld7 ?rd24; case yd24 => (intro w2 hSw; (try dsimp only at hSw); go_simp; try with_reducible rfl))
        (try simp only [Act.put, List.setIfInBounds_toArray, List.set_cons_zero, List.set_cons_succ])
        first
          | (refine wpAnyH_take (i := 25) (oi := { dst := some 39, op := Op.load 3 (Operand.tmp 38), type := 3, pos := "wal.go:88", after := #[{ on := 24, ground := Ground.data }, { on := 17, ground := Ground.guard }], guard := some (17, true) }) (v := undef) rfl (by kernel_rfl) (by kernel_rfl) (by kernel_rfl) (fun _ _ _ h => h) (Or.inr ⟨by rfl, rfl⟩) hHeld7 ?_)
          | (refine wpAnyH_take (i := 25) (oi := { dst := some 39, op := Op.load 3 (Operand.tmp 38), type := 3, pos := "wal.go:88", after := #[{ on := 24, ground := Ground.data }, { on := 17, ground := Ground.guard }], guard := some (17, true) }) (v := ?vd25) rfl (by kernel_rfl) (by kernel_rfl) (by kernel_rfl) (fun _ _ _ h => h) (Or.inl ⟨by rfl, ?yd25⟩) hHeld7 ?rd25; case yd25 => (intro w2 hSw; (try dsimp only at hSw); go_simp; try with_reducible rfl))
        (try simp only [Act.put, List.setIfInBounds_toArray, List.set_cons_zero, List.set_cons_succ])
        first
          | (refine wpAnyH_take (i := 26) (oi := { dst := some 40, op := Op.binOp BinOp.eql 3 (Operand.tmp 33) (Operand.tmp 39) 3, type := 4, pos := "wal.go:88", after := #[{ on := 19, ground := Ground.data }, { on := 25, ground := Ground.data }, { on := 17, ground := Ground.guard }], guard := some (17, true) }) (v := undef) rfl (by kernel_rfl) (by kernel_rfl) (by kernel_rfl) (fun _ _ _ h => h) (Or.inr ⟨by rfl, rfl⟩) hHeld7 ?_)
          | (refine wpAnyH_take (i := 26) (oi := { dst := some 40, op := Op.binOp BinOp.eql 3 (Operand.tmp 33) (Operand.tmp 39) 3, type := 4, pos := "wal.go:88", after := #[{ on := 19, ground := Ground.data }, { on := 25, ground := Ground.data }, { on := 17, ground := Ground.guard }], guard := some (17, true) }) (v := ?vd26) rfl (by kernel_rfl) (by kernel_rfl) (by kernel_rfl) (fun _ _ _ h => h) (Or.inl ⟨by rfl, ?yd26⟩) hHeld7 ?rd26; case yd26 => (intro w2 hSw; (try dsimp only at hSw); go_simp; try with_reducible rfl))
        (try simp only [Act.put, List.setIfInBounds_toArray, List.set_cons_zero, List.set_cons_succ])
        first
          | (refine wpAnyH_take (i := 27) (oi := { dst := some 41, op := Op.pick (Operand.tmp 31) (Operand.tmp 40) (Operand.const (Value.bool false)), type := 4, pos := "wal.go:88", after := #[{ on := 17, ground := Ground.data }, { on := 26, ground := Ground.data }, { on := 14, ground := Ground.guard }], guard := some (14, false) }) (v := undef) rfl (by kernel_rfl) (by kernel_rfl) (by kernel_rfl) (fun _ _ _ h => h) (Or.inr ⟨by rfl, rfl⟩) hHeld7 ?_)
          | (refine wpAnyH_take (i := 27) (oi := { dst := some 41, op := Op.pick (Operand.tmp 31) (Operand.tmp 40) (Operand.const (Value.bool false)), type := 4, pos := "wal.go:88", after := #[{ on := 17, ground := Ground.data }, { on := 26, ground := Ground.data }, { on := 14, ground := Ground.guard }], guard := some (14, false) }) (v := ?vd27) rfl (by kernel_rfl) (by kernel_rfl) (by kernel_rfl) (fun _ _ _ h => h) (Or.inl ⟨by rfl, ?yd27⟩) hHeld7 ?rd27; case yd27 => (intro w2 hSw; (try dsimp only at hSw); go_simp; try with_reducible rfl))
        (try simp only [Act.put, List.setIfInBounds_toArray, List.set_cons_zero, List.set_cons_succ])
        refine wpAnyH_take (i := 28) (oi := { dst := some 42, op := Op.pick (Operand.tmp 28) (Operand.const (Value.bool true)) (Operand.tmp 41), type := 4, pos := "wal.go:88", after := #[{ on := 14, ground := Ground.data }, { on := 27, ground := Ground.data }], guard := none }) (v := ?vd28) rfl (by kernel_rfl) (by kernel_rfl) (by kernel_rfl) (fun _ _ _ h => h) (Or.inl ⟨by rfl, ?yd28⟩) hHeld7 ?rd28
        case yd28 => (intro w2 hSw; (try dsimp only at hSw); go_simp; try with_reducible rfl)
        (try simp only [Act.put, List.setIfInBounds_toArray, List.set_cons_zero, List.set_cons_succ])
        refine wpAnyH_done (by kernel_rfl) ?_ _
        all_goals
          go_wp2_with fail
          go_ret
          rw [refR, HBAD.out]
          exact ⟨rfl, H7.out.1.fr⟩
    · obtain rfl : k = n := by omega
      have HE := Lib.hid (show badF lo N none l = false by rw [HR.out.2, List.drop_eq_nil_of_le (by rw [← HLEN.out]; omega)]; rfl)
      obtain ⟨b0, b1, b2, _⟩ := wal_c HR.out.1.wal
      by_cases hrc : rc < k
      · have hrc' : (rc : Int) < k := by omega
        go_wp2_with fail
        go_ret
        rw [refR, HE.out, if_neg (by simp), if_pos (by rw [← HLEN.out]; exact hrc)]
        exact ⟨rfl, HR.out.1.fr⟩
      · have hrc' : ¬ (rc : Int) < k := by omega
        go_wp2_with fail
        go_ret
        rw [refR, HE.out, if_neg (by simp), if_neg (by rw [← HLEN.out]; exact hrc)]
        exact ⟨rfl, HR.out.1.fr⟩
end Go.Proofs.YtflapnbpaodhaaaGreatDoor.hd
