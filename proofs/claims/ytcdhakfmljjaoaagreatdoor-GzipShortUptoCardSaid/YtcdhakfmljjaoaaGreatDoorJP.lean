/-
  Texts that belong together, joined: GeD GeE GeF.
-/
import Derived.Test.YtcdhakfmljjaoaaGreatDoorJO
import Derived.StillTailTactics
import Derived.Laws.EntriesVeiled

/-
  The program's frame that is being read: the closure that checks; the closures together; the parts.
-/



namespace Go.Proofs.YtcdhakfmljjaoaaGreatDoor.gz
set_option maxRecDepth 100000
open Go.RowKit Go.Maps Go.Proofs.YtcdhakfmljjaoaaGreatDoor.fl Go.Proofs.YtcdhakfmljjaoaaGreatDoor.cd Go.Proofs.YtcdhakfmljjaoaaGreatDoor.ft
set_option maxRecDepth 100000

section
variable {w0 w w' : World} {g n cap p bx : Nat} {A : Option Addr} {b : By}
theorem Tells.ahead {f : RdM Unit} {w1 : World} {e : Ending} (hF : JM w0 w w1 g A n cap b p) (h : Tells f w0 w1 g A n cap b p e w') : Tells f w0 w g A n cap b p e w' := by
  obtain ⟨k, q, h1, h2, h3, h4⟩ := h
  exact ⟨k, q, h1, hF.then h2, h3, h4⟩
set_option maxHeartbeats 1000000 in
theorem pchecked (h : JZ w0 w g A n cap b p) (hT : DT w0) (hB : Bx w bx g) : Calls Tryz.prog 91 #[.pointer (some ⟨bx, 0, none⟩)] w (Tells (checkM csum) w0 w g A n cap b p) := by
  have HX := Lib.hid (check_want csum (b := b) (p := p) (by have := h.len; have := h.le; omega))
  have HS := Lib.hid (fun (wx : World) (hF : Fr (fun _ => False) w wx) => psumHead wx (hT.keep (h.fr.trans hF (fun _ _ e => e))) A p cap w0.heap.size (b.take p) ((h.still hF).now.take p) (by rw [List.length_take]; have := h.len; have := h.le; omega) (by have := h.le; have := h.sm; omega))
  have HE := Lib.hid (fun (wx : World) (hF : Fr (fun _ => False) w wx) => (pexpect (h.still hF) (csum (b.take p) % 65536) 2 121 (by decide) (by decide) (by decide)).mono fun e w' ht => (ht.ahead (h.step hF)).as HX.out)
  obtain ⟨N, hN⟩ : ∃ N, N = csum (b.take p) % 65536 := ⟨_, rfl⟩
  rw [← hN] at HS HE
  have b0 := hB.cell
  have c0 := h.c0
  have c1 := h.c1
  have hp := h.le
  have hc := h.cap
  have hlo : ∀ wx : World, (Instr.slice 22 (.slice A n cap) none (some (.int .i64 (p : Int))) none).run Tryz.prog wx = .ok (.slice A p cap) wx := fun wx => cut_low wx A n cap p (by omega)
  clear h hN hB hT HX
  go_enter Tryz.func91, Tryz.ntmps91
  go_wp2_with fail
  refine wp_region_still_tail 11 (by kernel_rfl) (by kernel_rfl) ?_
  simp only [List.take_succ_cons, List.take_zero, List.drop_succ_cons, List.drop_zero]
  have HS1 := Lib.hid (HS.out w.drew ((Fr.refl _ _).drew) |>.mono fun _ _ ⟨a, c⟩ => (⟨a, c.symm⟩ : _ ∧ _ = w.drew))
  repeat still_step
  still_call HS1.out
  refine wpStill_nil ?_
  change wpList _ _ _ _ _ w.drew
  go_wp2_with (go_at_call 48; refine (HE.out _ ((Fr.refl _ _).drew)).mono ?_; rintro e w2 ⟨k, q, rfl, h2, h3, h4⟩; have H2 : Hid (Tells (checkM csum) w0 w g A n cap b p (.returned (.int .i64 k)) w2) := ⟨k, q, rfl, h2, h3, h4⟩; clear h2 h3 h4)
  go_ret
  exact H2.out
/-- A closure over the box. -/
abbrev fnV (f : Nat) (bx : Nat) : Value := .func (Fn.func f) #[] #[.pointer (some ⟨bx, 0, none⟩)]
abbrev mtV (bx : Nat) : Array Value := #[fnV 88 bx, fnV 89 bx, fnV 91 bx]
set_option maxHeartbeats 1000000 in
theorem pmethods (w : World) (g : Nat) (hg : g < w.heap.size) : Calls Tryz.prog 70 #[.pointer (some ⟨g, 0, none⟩)] w fun e w' => e = .returned (.agg (mtV w.heap.size)) ∧ Bx w' w.heap.size g ∧ Fr (fun _ => False) w w' := by
  have HE := Lib.hid (fun (o : Obj) => (show Bx ((w.alloc (.cells #[.pointer (some ⟨g, 0, none⟩)] 46 (0, 0))).alloc o) w.heap.size g ∧ Fr (fun _ => False) w ((w.alloc (.cells #[.pointer (some ⟨g, 0, none⟩)] 46 (0, 0))).alloc o) from by
    refine ⟨⟨?_, by omega⟩, ((Fr.refl _ w).alloc _).alloc _⟩
    rw [Below.heap_alloc _ _ _ (by simp)]
    exact heap_alloc_new _ _))
  go_enter Tryz.func70, Tryz.ntmps70
  go_wp2_with fail
  exact bodyPost_ret (v := .agg (mtV w.heap.size)) (results_cell_row rfl _ _ (w.heap.size + 1) 97 (mtV w.heap.size) (0, 0) _ rfl (heap_alloc2_new _ _ _) Tryz.underlying97 rfl (by kernel_rfl)) rfl ⟨rfl, HE.out _⟩
end
end Go.Proofs.YtcdhakfmljjaoaaGreatDoor.gz

/-
  The program's frame that is being read: the parts of its header.
-/
namespace Go.Proofs.YtcdhakfmljjaoaaGreatDoor.gz
set_option maxRecDepth 100000
open Go.RowKit Go.Maps Go.Proofs.YtcdhakfmljjaoaaGreatDoor.fl Go.Proofs.YtcdhakfmljjaoaaGreatDoor.cd Go.Proofs.YtcdhakfmljjaoaaGreatDoor.ft
set_option maxRecDepth 100000

theorem and_flag : ∀ fl : Nat, fl < 256 → (bits .and .i64 (fl : Int) 4 = if fl / 4 % 2 = 1 then 4 else 0) ∧ (bits .and .i64 (fl : Int) 8 = if fl / 8 % 2 = 1 then 8 else 0) ∧ (bits .and .i64 (fl : Int) 16 = if fl / 16 % 2 = 1 then 16 else 0) ∧ (bits .and .i64 (fl : Int) 2 = if fl / 2 % 2 = 1 then 2 else 0) ∧ (bits .and .i64 (fl : Int) 224 = 0 ↔ fl < 32) := by decide +kernel
def bitF : Nat → Nat
  | 0 => 4
  | 1 => 8
  | 2 => 16
  | _ => 2
def partF (sum : By → Nat) : Nat → RdM Unit
  | 0 => extraM
  | 1 => zeroM
  | 2 => zeroM
  | _ => checkM sum
theorem part4 (sum : By → Nat) (fl : Nat) : partM sum fl 4 = ret () := by rw [partM] <;> omega
theorem bnd_ret {f : RdM Unit} (B : List Int) (p : Nat) : bnd f (fun _ => ret ()) B p = f B p := by
  cases h : f B p with
  | error e => rw [bnd_err h]
  | ok v => obtain ⟨⟨⟩, q⟩ := v; rw [bnd_of h]; rfl
theorem part_off (sum : By → Nat) {fl k : Nat} (hk : k < 4) (h : ¬ fl / bitF k % 2 = 1) (B : List Int) (p : Nat) : partM sum fl k B p = partM sum fl (k + 1) B p := by
  rcases (show k = 0 ∨ k = 1 ∨ k = 2 ∨ k = 3 by omega) with rfl | rfl | rfl | rfl
  · rw [part0, if_neg (show ¬ fl / 4 % 2 = 1 from h)]; rfl
  · rw [part1, if_neg (show ¬ fl / 8 % 2 = 1 from h)]; rfl
  · rw [part2, if_neg (show ¬ fl / 16 % 2 = 1 from h)]; rfl
  · rw [part3, part4, if_neg (show ¬ fl / 2 % 2 = 1 from h)]
theorem part_on (sum : By → Nat) {fl k : Nat} (hk : k < 4) (h : fl / bitF k % 2 = 1) (B : List Int) (p : Nat) : partM sum fl k B p = bnd (partF sum k) (fun _ => partM sum fl (k + 1)) B p := by
  rcases (show k = 0 ∨ k = 1 ∨ k = 2 ∨ k = 3 by omega) with rfl | rfl | rfl | rfl
  · rw [part0, if_pos (show fl / 4 % 2 = 1 from h)]; rfl
  · rw [part1, if_pos (show fl / 8 % 2 = 1 from h)]; rfl
  · rw [part2, if_pos (show fl / 16 % 2 = 1 from h)]; rfl
  · rw [part3, part4, if_pos (show fl / 2 % 2 = 1 from h), bnd_ret]; rfl
section
variable {w0 w w' : World} {g n cap p bx bm : Nat} {A : Option Addr} {b : By}
/-- The closures lie in a block of the call's own. -/
def Fn3 (w : World) (bm bx g : Nat) : Prop := w.heap[bm]? = some (.cells (mtV bx) 97 (0, 0)) ∧ bm ≠ g
theorem Fn3.keep (h : Fn3 w bm bx g) (hF : Fr (fun i => i = g) w w') : Fn3 w' bm bx g := ⟨(hF.block bm (lt_of_block h.1) h.2).trans h.1, h.2⟩
theorem Fn3.cells (h : Fn3 w bm bx g) : w.cell? ⟨bm, 0, none⟩ = some (.func (Fn.func 88) #[] #[.pointer (some ⟨bx, 0, none⟩)]) ∧ w.cell? ⟨bm, 1, none⟩ = some (.func (Fn.func 89) #[] #[.pointer (some ⟨bx, 0, none⟩)]) ∧ w.cell? ⟨bm, 2, none⟩ = some (.func (Fn.func 91) #[] #[.pointer (some ⟨bx, 0, none⟩)]) := ⟨cellAt h.1 0, cellAt h.1 1, cellAt h.1 2⟩
structure PZ (w0 w wr : World) (g : Nat) (A : Option Addr) (n cap : Nat) (b : By) (p fl bx bm k q : Nat) : Prop where
  jm : JM w0 w wr g A n cap b q
  box : Bx wr bx g
  fns : Fn3 wr bm bx g
  rd : partM csum fl 0 (bitsOf b) (8 * p) = partM csum fl k (bitsOf b) (8 * q)
theorem PZ.still {wr : World} {fl k q : Nat} (h : PZ w0 w wr g A n cap b p fl bx bm k q) (hF : Fr (fun _ => False) wr w') : PZ w0 w w' g A n cap b p fl bx bm k q :=
  have hF2 : Fr (fun i => i = g) wr w' := hF.mono (fun _ _ e => e.elim)
  ⟨h.jm.then (h.jm.1.step hF), h.box.keep hF2, h.fns.keep hF2, h.rd⟩
theorem PZ.off {wr : World} {fl k q : Nat} (h : PZ w0 w wr g A n cap b p fl bx bm k q) (hk : k < 4) (hb : ¬ fl / bitF k % 2 = 1) : PZ w0 w wr g A n cap b p fl bx bm (k + 1) q := ⟨h.jm, h.box, h.fns, by rw [h.rd, part_off csum hk hb]⟩
/-- A part is read: then the next one, or its error is told. -/
theorem PZ.on {wr w2 : World} {fl k q : Nat} {e : Ending} (h : PZ w0 w wr g A n cap b p fl bx bm k q) (hk : k < 4) (hb : fl / bitF k % 2 = 1) (ht : Tells (partF csum k) w0 wr g A n cap b q e w2) :
    (e = .returned (.int .i64 0) ∧ ∃ q2, PZ w0 w w2 g A n cap b p fl bx bm (k + 1) q2) ∨ ∃ kk : Int, kk ≠ 0 ∧ e = .returned (.int .i64 kk) ∧ Tells (partM csum fl 0) w0 w g A n cap b p e w2 := by
  obtain ⟨kk, q2, rfl, h2, h3, h4⟩ := ht
  by_cases h0 : kk = 0
  · subst h0
    refine Or.inl ⟨rfl, q2, ⟨h.jm.then h2, h.box.keep h2.2, h.fns.keep h2.2, ?_⟩⟩
    rw [h.rd, part_on csum hk hb, bnd_of (h3 rfl)]
  · refine Or.inr ⟨kk, h0, rfl, Tells.no rfl (h.jm.then h2) h0 ?_⟩
    rw [h.rd, part_on csum hk hb, bnd_err (h4 h0)]
set_option maxHeartbeats 4000000 in
theorem pparts (h : JZ w0 w g A n cap b p) (hT : DT w0) (fl : Nat) (hfl : fl < 256) : Calls Tryz.prog 51 #[.pointer (some ⟨g, 0, none⟩), .int .i64 (fl : Int)] w (Tells (partM csum fl 0) w0 w g A n cap b p) := by
  obtain ⟨a4, a8, a16, a2, _⟩ := and_flag fl hfl
  have HM := Lib.hid (pmethods w g (lt_of_block h.blk))
  have HT := Lib.hid hT
  have HJ := Lib.hid h
  have HLT := Lib.hid (lt_of_block h.blk)
  clear h hT
  go_enter Tryz.func51, Tryz.ntmps51
  go_wp2_with fail
  refine HM.out.mono ?_
  rintro e w1 ⟨rfl, hB, hF⟩
  have HP0 := Lib.hid (show PZ w0 w (w1.alloc (.cells (mtV w.heap.size) 97 (0, 0))) g A n cap b p fl w.heap.size w1.heap.size 0 p from
    have hj := HJ.out.step (hF.alloc _)
    ⟨hj, hB.keep ((Fr.refl _ w1).alloc _), ⟨heap_alloc_new _ _, by have := HLT.out; have := hF.size; omega⟩, rfl⟩)
  have HD := Lib.hid (show DT (w1.alloc (.cells (mtV w.heap.size) 97 (0, 0))) from HT.out.keep HP0.out.jm.1.fr)
  have g0 := HD.out.prt 0 _ rfl
  have g1 := HD.out.prt 1 _ rfl
  have g2 := HD.out.prt 2 _ rfl
  have g3 := HD.out.prt 3 _ rfl
  have g4 := HD.out.prt 4 _ rfl
  have g5 := HD.out.prt 5 _ rfl
  have g6 := HD.out.prt 6 _ rfl
  have g7 := HD.out.prt 7 _ rfl
  obtain ⟨bx, hbx⟩ : ∃ k, k = w.heap.size := ⟨_, rfl⟩
  obtain ⟨bm, hbm⟩ : ∃ k, k = w1.heap.size := ⟨_, rfl⟩
  clear hB hF HM
  go_wp2_with fail
  go_loopw [12] (fun i wr => ∃ (k : Nat) (z : Int), k ≤ 4 ∧ i = .int .i64 z ∧ z = (k : Int) ∧ Hid (∃ q, PZ w0 w wr g A n cap b p fl w.heap.size w1.heap.size k q)) (fun i _ => 4 - (intOf i).toNat)
  case atStart => exact ⟨0, 0, by omega, rfl, rfl, (show ∃ q, PZ w0 w _ g A n cap b p fl w.heap.size w1.heap.size 0 q from ⟨p, HP0.out⟩)⟩
  case round =>
    obtain ⟨k, z, hk4, rfl, hz0, HZ⟩ := hrel
    obtain ⟨q, hz⟩ := HZ.out
    clear HZ HP0 HD g0 g1 g2 g3 g4 g5 g6 g7 HLT
    rcases (show k = 0 ∨ k = 1 ∨ k = 2 ∨ k = 3 ∨ k = 4 by omega) with rfl | rfl | rfl | rfl | rfl
    · obtain rfl : z = 0 := hz0
      have hix : ∀ wx : World, (Instr.index 101 (.agg #[.int .i64 4, .int .i64 0, .int .i64 8, .int .i64 1, .int .i64 16, .int .i64 1, .int .i64 2, .int .i64 2]) (.int .i64 0)).run Tryz.prog wx = .ok (.agg #[.int .i64 4, .int .i64 0]) wx := fun wx => by kernel_rfl
      have hs := hz.still ((Fr.refl _ wr).alloc (.cells #[.int .i64 4, .int .i64 0] 100 (0, 0)))
      obtain ⟨y0, y1, y2⟩ := hs.fns.cells
      clear a8 a16 a2
      by_cases hb : fl / 4 % 2 = 1
      · rw [if_pos hb] at a4
        have HC := Lib.hid (pcounted hs.jm.1 hs.box)
        have HON := Lib.hid (fun e w2 ht => hs.on (e := e) (w2 := w2) (k := 0) (by omega) hb ht)
        clear hz hs hb
        go_wp2_with fail
        refine HC.out.mono ?_
        intro e w2 ht
        rcases HON.out e w2 ht with ⟨rfl, q2, h2⟩ | ⟨kk, hk0, rfl, h2⟩
        · have H2 := Lib.hid (show ∃ q, PZ w0 w w2 g A n cap b p fl w.heap.size w1.heap.size 1 q from ⟨q2, h2⟩)
          clear h2 ht HC HON
          go_wp2_with fail
          go_roundw
          case rel => exact ⟨1, 1, by omega, by go_num, rfl, H2⟩
          case measure => simp [intOf]
        · have H2 := Lib.hid h2
          clear h2 ht HC HON
          go_wp2_with fail
          go_ret
          exact H2.out
      · rw [if_neg hb] at a4
        have H2 := Lib.hid (show ∃ q, PZ w0 w _ g A n cap b p fl w.heap.size w1.heap.size 1 q from ⟨q, hs.off (k := 0) (by omega) hb⟩)
        clear hz hs hb
        go_wp2_with fail
        go_roundw
        case rel => exact ⟨1, 1, by omega, by go_num, rfl, H2⟩
        case measure => simp [intOf]
    · obtain rfl : z = 1 := hz0
      have hix : ∀ wx : World, (Instr.index 101 (.agg #[.int .i64 4, .int .i64 0, .int .i64 8, .int .i64 1, .int .i64 16, .int .i64 1, .int .i64 2, .int .i64 2]) (.int .i64 1)).run Tryz.prog wx = .ok (.agg #[.int .i64 8, .int .i64 1]) wx := fun wx => by kernel_rfl
      have hs := hz.still ((Fr.refl _ wr).alloc (.cells #[.int .i64 8, .int .i64 1] 100 (0, 0)))
      obtain ⟨y0, y1, y2⟩ := hs.fns.cells
      clear a4 a16 a2
      by_cases hb : fl / 8 % 2 = 1
      · rw [if_pos hb] at a8
        have HC := Lib.hid (pended hs.jm.1 hs.box)
        have HON := Lib.hid (fun e w2 ht => hs.on (e := e) (w2 := w2) (k := 1) (by omega) hb ht)
        clear hz hs hb
        go_wp2_with fail
        refine HC.out.mono ?_
        intro e w2 ht
        rcases HON.out e w2 ht with ⟨rfl, q2, h2⟩ | ⟨kk, hk0, rfl, h2⟩
        · have H2 := Lib.hid (show ∃ q, PZ w0 w w2 g A n cap b p fl w.heap.size w1.heap.size 2 q from ⟨q2, h2⟩)
          clear h2 ht HC HON
          go_wp2_with fail
          go_roundw
          case rel => exact ⟨2, 2, by omega, by go_num, rfl, H2⟩
          case measure => simp [intOf]
        · have H2 := Lib.hid h2
          clear h2 ht HC HON
          go_wp2_with fail
          go_ret
          exact H2.out
      · rw [if_neg hb] at a8
        have H2 := Lib.hid (show ∃ q, PZ w0 w _ g A n cap b p fl w.heap.size w1.heap.size 2 q from ⟨q, hs.off (k := 1) (by omega) hb⟩)
        clear hz hs hb
        go_wp2_with fail
        go_roundw
        case rel => exact ⟨2, 2, by omega, by go_num, rfl, H2⟩
        case measure => simp [intOf]
    · obtain rfl : z = 2 := hz0
      have hix : ∀ wx : World, (Instr.index 101 (.agg #[.int .i64 4, .int .i64 0, .int .i64 8, .int .i64 1, .int .i64 16, .int .i64 1, .int .i64 2, .int .i64 2]) (.int .i64 2)).run Tryz.prog wx = .ok (.agg #[.int .i64 16, .int .i64 1]) wx := fun wx => by kernel_rfl
      have hs := hz.still ((Fr.refl _ wr).alloc (.cells #[.int .i64 16, .int .i64 1] 100 (0, 0)))
      obtain ⟨y0, y1, y2⟩ := hs.fns.cells
      clear a4 a8 a2
      by_cases hb : fl / 16 % 2 = 1
      · rw [if_pos hb] at a16
        have HC := Lib.hid (pended hs.jm.1 hs.box)
        have HON := Lib.hid (fun e w2 ht => hs.on (e := e) (w2 := w2) (k := 2) (by omega) hb ht)
        clear hz hs hb
        go_wp2_with fail
        refine HC.out.mono ?_
        intro e w2 ht
        rcases HON.out e w2 ht with ⟨rfl, q2, h2⟩ | ⟨kk, hk0, rfl, h2⟩
        · have H2 := Lib.hid (show ∃ q, PZ w0 w w2 g A n cap b p fl w.heap.size w1.heap.size 3 q from ⟨q2, h2⟩)
          clear h2 ht HC HON
          go_wp2_with fail
          go_roundw
          case rel => exact ⟨3, 3, by omega, by go_num, rfl, H2⟩
          case measure => simp [intOf]
        · have H2 := Lib.hid h2
          clear h2 ht HC HON
          go_wp2_with fail
          go_ret
          exact H2.out
      · rw [if_neg hb] at a16
        have H2 := Lib.hid (show ∃ q, PZ w0 w _ g A n cap b p fl w.heap.size w1.heap.size 3 q from ⟨q, hs.off (k := 2) (by omega) hb⟩)
        clear hz hs hb
        go_wp2_with fail
        go_roundw
        case rel => exact ⟨3, 3, by omega, by go_num, rfl, H2⟩
        case measure => simp [intOf]
    · obtain rfl : z = 3 := hz0
      have hix : ∀ wx : World, (Instr.index 101 (.agg #[.int .i64 4, .int .i64 0, .int .i64 8, .int .i64 1, .int .i64 16, .int .i64 1, .int .i64 2, .int .i64 2]) (.int .i64 3)).run Tryz.prog wx = .ok (.agg #[.int .i64 2, .int .i64 2]) wx := fun wx => by kernel_rfl
      have hs := hz.still ((Fr.refl _ wr).alloc (.cells #[.int .i64 2, .int .i64 2] 100 (0, 0)))
      obtain ⟨y0, y1, y2⟩ := hs.fns.cells
      clear a4 a8 a16
      by_cases hb : fl / 2 % 2 = 1
      · rw [if_pos hb] at a2
        have HC := Lib.hid (pchecked hs.jm.1 HT.out hs.box)
        have HON := Lib.hid (fun e w2 ht => hs.on (e := e) (w2 := w2) (k := 3) (by omega) hb ht)
        clear hz hs hb
        go_wp2_with fail
        refine HC.out.mono ?_
        intro e w2 ht
        rcases HON.out e w2 ht with ⟨rfl, q2, h2⟩ | ⟨kk, hk0, rfl, h2⟩
        · have H2 := Lib.hid (show ∃ q, PZ w0 w w2 g A n cap b p fl w.heap.size w1.heap.size 4 q from ⟨q2, h2⟩)
          clear h2 ht HC HON
          go_wp2_with fail
          go_roundw
          case rel => exact ⟨4, 4, by omega, by go_num, rfl, H2⟩
          case measure => simp [intOf]
        · have H2 := Lib.hid h2
          clear h2 ht HC HON
          go_wp2_with fail
          go_ret
          exact H2.out
      · rw [if_neg hb] at a2
        have H2 := Lib.hid (show ∃ q, PZ w0 w _ g A n cap b p fl w.heap.size w1.heap.size 4 q from ⟨q, hs.off (k := 3) (by omega) hb⟩)
        clear hz hs hb
        go_wp2_with fail
        go_roundw
        case rel => exact ⟨4, 4, by omega, by go_num, rfl, H2⟩
        case measure => simp [intOf]
    · obtain rfl : z = 4 := hz0
      have H2 := Lib.hid (show Tells (partM csum fl 0) w0 w g A n cap b p (.returned (.int .i64 0)) wr from Tells.ok rfl hz.jm (by rw [hz.rd, part4]; rfl))
      clear hz
      go_wp2_with fail
      go_ret
      exact H2.out
end
end Go.Proofs.YtcdhakfmljjaoaaGreatDoor.gz

/-
  The program's frame that is being read: its header, its end; Header, Open.
-/
namespace Go.Proofs.YtcdhakfmljjaoaaGreatDoor.gz
set_option maxRecDepth 100000
open Go.RowKit Go.Maps Go.Proofs.YtcdhakfmljjaoaaGreatDoor.fl Go.Proofs.YtcdhakfmljjaoaaGreatDoor.cd Go.Proofs.YtcdhakfmljjaoaaGreatDoor.ft
set_option maxRecDepth 100000

/-- The header from its k-th byte on. -/
def hd3 (sum : By → Nat) : RdM Unit := bnd b1 fun fl => if 32 ≤ fl.toNat then err 120 else bnd (by8 6) fun _ => partM sum fl.toNat 0
def hdM (sum : By → Nat) : Nat → RdM Unit
  | 0 => headM sum
  | 1 => bnd (isM 0x8b) fun _ => bnd (isM 8) fun _ => hd3 sum
  | 2 => bnd (isM 8) fun _ => hd3 sum
  | _ => hd3 sum
def begB : Nat → UInt8
  | 0 => 0x1f
  | 1 => 0x8b
  | _ => 8
theorem hd_next (sum : By → Nat) {k : Nat} (hk : k < 3) : hdM sum k = bnd (isM (begB k)) fun _ => hdM sum (k + 1) := by
  rcases (show k = 0 ∨ k = 1 ∨ k = 2 by omega) with rfl | rfl | rfl
  · show headM sum = _
    rw [head_parts]
    rfl
  · rfl
  · rfl
section
variable {w0 w w' : World} {g n cap p : Nat} {A : Option Addr} {b : By}
structure HZ (w0 w wr : World) (g : Nat) (A : Option Addr) (n cap : Nat) (b : By) (p k q : Nat) : Prop where
  jm : JM w0 w wr g A n cap b q
  rd : headM csum (bitsOf b) (8 * p) = hdM csum k (bitsOf b) (8 * q)
theorem HZ.on {wr w2 : World} {k q : Nat} {e : Ending} (h : HZ w0 w wr g A n cap b p k q) (hk : k < 3) (ht : Tells (wantM (begB k).toNat 1 120) w0 wr g A n cap b q e w2) :
    (e = .returned (.int .i64 0) ∧ ∃ q2, HZ w0 w w2 g A n cap b p (k + 1) q2) ∨ ∃ kk : Int, kk ≠ 0 ∧ e = .returned (.int .i64 kk) ∧ Tells (headM csum) w0 w g A n cap b p e w2 := by
  obtain ⟨kk, q2, rfl, h2, h3, h4⟩ := ht
  rw [← is_want] at h3 h4
  by_cases h0 : kk = 0
  · subst h0
    refine Or.inl ⟨rfl, q2, ⟨h.jm.then h2, ?_⟩⟩
    rw [h.rd, hd_next csum hk, bnd_of (h3 rfl)]
  · refine Or.inr ⟨kk, h0, rfl, Tells.no rfl (h.jm.then h2) h0 ?_⟩
    rw [h.rd, hd_next csum hk, bnd_err (h4 h0)]
theorem one_byte {b : By} {q : Nat} (h : q < b.length) : (b.drop q).take 1 = [b[q]] := by
  rw [List.drop_eq_getElem_cons h, List.take_succ_cons, List.take_zero]
theorem hd3_no {q : Nat} (h : b.length < q + 1) : hd3 csum (bitsOf b) (8 * q) = .error 7 := by
  unfold hd3 b1
  rw [bnd_err (bnd_err (by8_out h))]
theorem hd3_in {q : Nat} (h : q < b.length) : hd3 csum (bitsOf b) (8 * q) = (if 32 ≤ num ((b.drop q).take 1) then err 120 else bnd (skipM 6) fun _ => partM csum (num ((b.drop q).take 1)) 0) (bitsOf b) (8 * (q + 1)) := by
  unfold hd3 b1
  rw [bnd_of (bnd_of (by8_in h)), one_byte h]
  show (if 32 ≤ b[q].toNat then err 120 else bnd (by8 6) fun _ => partM csum b[q].toNat 0 : RdM Unit) _ _ = _
  rw [show num [b[q]] = b[q].toNat from rfl]
  by_cases h32 : 32 ≤ b[q].toNat
  · rw [if_pos h32, if_pos h32]
  · rw [if_neg h32, if_neg h32]
    unfold skipM
    by_cases h6 : q + 1 + 6 ≤ b.length
    · rw [bnd_of (by8_in h6), bnd_of (bnd_of (by8_in h6))]
    · rw [bnd_err (by8_out (by omega)), bnd_err (bnd_err (by8_out (by omega)))]
set_option maxHeartbeats 4000000 in
theorem pheader (h : JZ w0 w g A n cap b p) (hT : DT w0) : Calls Tryz.prog 28 #[.pointer (some ⟨g, 0, none⟩)] w (Tells (headM csum) w0 w g A n cap b p) := by
  have HT := Lib.hid hT
  have HJ := Lib.hid h
  have HP0 := Lib.hid (show HZ w0 w w g A n cap b p 0 p from ⟨⟨h, Fr.refl _ _⟩, rfl⟩)
  clear h hT
  go_enter Tryz.func28, Tryz.ntmps28
  go_wp2_with fail
  go_loopw [8] (fun i wr => ∃ (k : Nat) (z : Int), k ≤ 3 ∧ i = .int .i64 z ∧ z = (k : Int) ∧ Hid (∃ q, HZ w0 w wr g A n cap b p k q)) (fun i _ => 3 - (intOf i).toNat)
  case atStart => exact ⟨0, 0, by omega, rfl, rfl, (show ∃ q, HZ w0 w w g A n cap b p 0 q from ⟨p, HP0.out⟩)⟩
  case round =>
    obtain ⟨k, z, hk3, rfl, hz0, HQ⟩ := hrel
    obtain ⟨q, hz⟩ := HQ.out
    clear HQ HP0
    rcases (show k = 0 ∨ k = 1 ∨ k = 2 ∨ k = 3 by omega) with rfl | rfl | rfl | rfl
    · obtain rfl : z = 0 := hz0
      have hix : ∀ wx : World, (Instr.index 9 (.string ⟨#[31, 139, 8]⟩) (.int .i64 0)).run Tryz.prog wx = .ok (.int .u8 31) wx := fun wx => by kernel_rfl
      have HC := Lib.hid (pexpect hz.jm.1 31 1 120 (by decide) (by decide) (by decide))
      have HON := Lib.hid (fun e w2 ht => hz.on (e := e) (w2 := w2) (by omega) ht)
      clear hz
      go_wp2_with fail
      refine HC.out.mono ?_
      intro e w2 ht
      rcases HON.out e w2 ht with ⟨rfl, q2, h2⟩ | ⟨kk, hk0, rfl, h2⟩
      · have H2 := Lib.hid (show ∃ q, HZ w0 w w2 g A n cap b p 1 q from ⟨q2, h2⟩)
        clear h2 ht HC HON
        go_wp2_with fail
        go_roundw
        case rel => exact ⟨1, 1, by omega, by go_num, rfl, H2⟩
        case measure => simp [intOf]
      · have H2 := Lib.hid h2
        clear h2 ht HC HON
        go_wp2_with fail
        go_ret
        exact H2.out
    · obtain rfl : z = 1 := hz0
      have hix : ∀ wx : World, (Instr.index 9 (.string ⟨#[31, 139, 8]⟩) (.int .i64 1)).run Tryz.prog wx = .ok (.int .u8 139) wx := fun wx => by kernel_rfl
      have HC := Lib.hid (pexpect hz.jm.1 139 1 120 (by decide) (by decide) (by decide))
      have HON := Lib.hid (fun e w2 ht => hz.on (e := e) (w2 := w2) (by omega) ht)
      clear hz
      go_wp2_with fail
      refine HC.out.mono ?_
      intro e w2 ht
      rcases HON.out e w2 ht with ⟨rfl, q2, h2⟩ | ⟨kk, hk0, rfl, h2⟩
      · have H2 := Lib.hid (show ∃ q, HZ w0 w w2 g A n cap b p 2 q from ⟨q2, h2⟩)
        clear h2 ht HC HON
        go_wp2_with fail
        go_roundw
        case rel => exact ⟨2, 2, by omega, by go_num, rfl, H2⟩
        case measure => simp [intOf]
      · have H2 := Lib.hid h2
        clear h2 ht HC HON
        go_wp2_with fail
        go_ret
        exact H2.out
    · obtain rfl : z = 2 := hz0
      have hix : ∀ wx : World, (Instr.index 9 (.string ⟨#[31, 139, 8]⟩) (.int .i64 2)).run Tryz.prog wx = .ok (.int .u8 8) wx := fun wx => by kernel_rfl
      have HC := Lib.hid (pexpect hz.jm.1 8 1 120 (by decide) (by decide) (by decide))
      have HON := Lib.hid (fun e w2 ht => hz.on (e := e) (w2 := w2) (by omega) ht)
      clear hz
      go_wp2_with fail
      refine HC.out.mono ?_
      intro e w2 ht
      rcases HON.out e w2 ht with ⟨rfl, q2, h2⟩ | ⟨kk, hk0, rfl, h2⟩
      · have H2 := Lib.hid (show ∃ q, HZ w0 w w2 g A n cap b p 3 q from ⟨q2, h2⟩)
        clear h2 ht HC HON
        go_wp2_with fail
        go_roundw
        case rel => exact ⟨3, 3, by omega, by go_num, rfl, H2⟩
        case measure => simp [intOf]
      · have H2 := Lib.hid h2
        clear h2 ht HC HON
        go_wp2_with fail
        go_ret
        exact H2.out
    · obtain rfl : z = 3 := hz0
      have HJ2 := Lib.hid hz.jm
      have HR := Lib.hid (show headM csum (bitsOf b) (8 * p) = hd3 csum (bitsOf b) (8 * q) from hz.rd)
      by_cases hq : q + 1 ≤ n
      · have HN := Lib.hid (pnumber_ok hz.jm.1 (k := 1) (by decide) (by decide) hq)
        have HX := Lib.hid (HR.out.trans (hd3_in (b := b) (q := q) (by have := hz.jm.1.len; omega)))
        have hlt := num_lt ((b.drop q).take 1)
        rw [List.length_take, List.length_drop, Nat.min_eq_left (by have := hz.jm.1.len; omega)] at hlt
        obtain ⟨fl, hfl⟩ : ∃ N, N = num ((b.drop q).take 1) := ⟨_, rfl⟩
        rw [← hfl] at HN HX hlt
        have h32 := (and_flag fl (by omega)).2.2.2.2
        clear hz hfl HR
        by_cases hb : fl < 32
        · have hand : bits .and .i64 (fl : Int) 224 = 0 := h32.2 hb
          have HX2 := Lib.hid (show headM csum (bitsOf b) (8 * p) = bnd (skipM 6) (fun _ => partM csum fl 0) (bitsOf b) (8 * (q + 1)) from by rw [HX.out, if_neg (by omega)])
          clear HX h32
          go_wp2_with fail
          refine HN.out.mono ?_
          rintro e w2 ⟨rfl, h2⟩
          have H2 := Lib.hid (HJ2.out.then h2)
          have HS := Lib.hid (pskip h2.1 6 (by decide))
          clear h2 HN
          go_wp2_with fail
          refine HS.out.mono ?_
          rintro e w3 ⟨kk, q3, rfl, j3, ok3, no3⟩
          have H3 := Lib.hid (H2.out.then j3)
          by_cases hk0 : kk = 0
          · subst hk0
            have HX3 := Lib.hid (show headM csum (bitsOf b) (8 * p) = partM csum fl 0 (bitsOf b) (8 * q3) from by rw [HX2.out, bnd_of (ok3 rfl)])
            have HP := Lib.hid (pparts j3.1 HT.out fl (by omega))
            clear ok3 no3 j3 HS
            go_wp2_with fail
            refine HP.out.mono ?_
            rintro e w4 ⟨k4, q4, rfl, j4, ok4, no4⟩
            have H4 := Lib.hid (show Tells (headM csum) w0 w g A n cap b p (.returned (.int .i64 k4)) w4 from ⟨k4, q4, rfl, H3.out.then j4, fun e => by rw [HX3.out]; exact ok4 e, fun e => by rw [HX3.out]; exact no4 e⟩)
            clear ok4 no4 j4 HP
            go_wp2_with fail
            go_ret
            exact H4.out
          · have H4 := Lib.hid (show Tells (headM csum) w0 w g A n cap b p (.returned (.int .i64 kk)) w3 from Tells.no rfl H3.out hk0 (by rw [HX2.out, bnd_err (no3 hk0)]))
            clear ok3 no3 j3 HS
            go_wp2_with fail
            go_ret
            exact H4.out
        · have hand : ¬ bits .and .i64 (fl : Int) 224 = 0 := fun e => hb (h32.1 e)
          have HX2 := Lib.hid (show headM csum (bitsOf b) (8 * p) = .error 120 from by rw [HX.out, if_pos (by omega)]; rfl)
          clear HX h32
          go_wp2_with fail
          refine HN.out.mono ?_
          rintro e w2 ⟨rfl, h2⟩
          have H2 := Lib.hid (show Tells (headM csum) w0 w g A n cap b p (.returned (.int .i64 120)) w2 from Tells.no rfl (HJ2.out.then h2) (by decide) HX2.out)
          clear h2 HN
          go_wp2_with fail
          go_ret
          exact H2.out
      · have HN := Lib.hid (pnumber_no hz.jm.1 (k := 1) (by omega))
        have HX := Lib.hid (HR.out.trans (hd3_no (b := b) (q := q) (by have := hz.jm.1.len; omega)))
        clear hz HR
        go_wp2_with fail
        refine HN.out.mono ?_
        rintro e w2 ⟨rfl, h2⟩
        have H2 := Lib.hid (show Tells (headM csum) w0 w g A n cap b p (.returned (.int .i64 7)) w2 from Tells.no rfl (HJ2.out.then h2) (by decide) HX.out)
        clear h2 HN
        go_wp2_with fail
        go_ret
        exact H2.out

/-! ### Header -/
theorem jz_new (w : World) (A : Option Addr) (cap : Nat) (b : By) (hr : Rd w w.heap.size A b) (hA : A = none → cap = 0) (hc : b.length ≤ cap) (hb : b.length ≤ 4000000) : JZ w (w.alloc (rdO A b.length cap 0)) w.heap.size A b.length cap b 0 :=
  ⟨heap_alloc_new _ _, Nat.le_refl _, (Fr.refl _ w).alloc _, hr, hA, rfl, hc, Nat.zero_le _, hb⟩
theorem head8 {b : By} {q : Nat} (h : headM csum (bitsOf b) 0 = .ok ((), 8 * q)) : headV csum b = (q, 0) := by
  unfold headV
  rw [h]
  show (8 * q / 8, (0 : Int)) = _
  rw [Nat.mul_div_cancel_left _ (by decide)]
set_option maxHeartbeats 2000000 in
theorem pHeader (w : World) (A : Option Addr) (cap : Nat) (b : By) (hr : Rd w w.heap.size A b) (hA : A = none → cap = 0) (hc : b.length ≤ cap) (hb : b.length ≤ 4000000) (hT : DT w) :
    Calls Tryz.prog 15 #[.slice A b.length cap] w fun e w' => e = .returned (.tuple #[.int .i64 ((headV csum b).1 : Nat), .int .i64 (headV csum b).2]) ∧ Fr (fun _ => False) w w' := by
  have HH := Lib.hid (pheader (jz_new w A cap b hr hA hc hb) hT)
  obtain ⟨n, hn⟩ : ∃ n, n = b.length := ⟨_, rfl⟩
  rw [← hn] at HH ⊢
  clear hr hA hc hb hT hn
  go_enter Tryz.func15, Tryz.ntmps15
  go_wp2_with fail
  refine HH.out.mono ?_
  rintro e w1 ⟨kk, q, rfl, j1, ok1, no1⟩
  have c1 := j1.1.c1
  have HF := Lib.hid j1.1.fr
  by_cases hk0 : kk = 0
  · subst hk0
    have HV := Lib.hid (head8 (ok1 rfl))
    clear j1 ok1 no1 HH
    go_wp2_with fail
    go_ret2
    rw [HV.out]
    exact ⟨rfl, HF.out⟩
  · have HV := Lib.hid (show headV csum b = (0, kk) from by unfold headV; rw [show headM csum (bitsOf b) 0 = .error kk from no1 hk0])
    clear j1 ok1 no1 HH
    go_wp2_with fail
    go_ret2
    rw [HV.out]
    exact ⟨rfl, HF.out⟩
end
end Go.Proofs.YtcdhakfmljjaoaaGreatDoor.gz
