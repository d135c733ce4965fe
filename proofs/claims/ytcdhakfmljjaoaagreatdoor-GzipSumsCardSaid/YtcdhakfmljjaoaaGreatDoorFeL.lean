/-
  The program's stream: told.
-/
import Derived.Test.YtcdhakfmljjaoaaGreatDoorFeK
namespace Go.Proofs.YtcdhakfmljjaoaaGreatDoor.ft
set_option maxRecDepth 100000
open Go.RowKit Go.Maps Go.Proofs.YtcdhakfmljjaoaaGreatDoor.fl Go.Proofs.YtcdhakfmljjaoaaGreatDoor.cd
set_option maxRecDepth 100000

def sizB (k : Nat) : Nat := if k = 0 then 257 else if k = 1 then 1 else 4
def sizX (k : Nat) : Nat := if k = 2 then 4 else 5
def restM (s o c : Nat) : RdM (List Int × List Int) := if 286 < s ∨ 30 < o then err 110 else bnd (codeM c) fun f => bnd (lensM f (s + o)) fun a => if (a[256]?).getD 0 = 0 then err 110 else if okB (a.take s) = true ∧ okB (a.drop s) = true then ret (a.take s, a.drop s) else err 110
def told2 (s o : Nat) : RdM (List Int × List Int) := bnd (tk 4) fun c => restM s o (4 + c.toNat)
def told1 (s : Nat) : RdM (List Int × List Int) := bnd (tk 5) fun d => told2 s (1 + d.toNat)
def told0 : RdM (List Int × List Int) := bnd (tk 5) fun l => told1 (257 + l.toNat)
/-- A told block's codes, of which some of the three numbers are read. -/
def toldG : List Nat → RdM (List Int × List Int)
  | [] => told0
  | [s] => told1 s
  | [s, o] => told2 s o
  | [s, o, c] => restM s o c
  | _ => err 99
theorem toldG_step {g : List Nat} {i : Nat} (hi : g.length = i) (h3 : i < 3) : toldG g = bnd (tk (sizX i)) fun x => toldG (g ++ [sizB i + x.toNat]) := by
  match g, hi with
  | [], hi => subst hi; rfl
  | [s], hi => subst hi; rfl
  | [s, o], hi => subst hi; rfl
  | _ :: _ :: _ :: l, hi => simp at hi; omega
theorem told_pair (most : Nat) (out : By) (B : List Int) (p : Nat) : toldM most out B p = bnd told0 (fun ab => symsM most ab.1 ab.2 out) B p := by
  unfold toldM told0 told1 told2 restM codeM
  unfold bnd
  cases tk 5 B p with
  | error e => rfl
  | ok v =>
    obtain ⟨l, q⟩ := v
    simp only
    cases tk 5 B q with
    | error e => rfl
    | ok v =>
      obtain ⟨d, q2⟩ := v
      simp only
      cases tk 4 B q2 with
      | error e => rfl
      | ok v =>
        obtain ⟨c, q3⟩ := v
        simp only
        by_cases h : 286 < 257 + l.toNat ∨ 30 < 1 + d.toNat
        · rw [if_pos h, if_pos h]; rfl
        · rw [if_neg h, if_neg h]
          cases manyM (tk 3) (4 + c.toNat) B q3 with
          | error e => rfl
          | ok v =>
            obtain ⟨v, q4⟩ := v
            simp only
            by_cases hk : okB (firstL v) = true
            · rw [if_pos hk, if_pos hk]
              unfold ret
              simp only
              cases lensM (firstL v) (257 + l.toNat + (1 + d.toNat)) B q4 with
              | error e => rfl
              | ok u =>
                obtain ⟨a, q5⟩ := u
                simp only
                by_cases h0 : (a[256]?).getD 0 = 0
                · rw [if_pos h0, if_pos h0]; rfl
                · rw [if_neg h0, if_neg h0]
                  by_cases h1 : okB (a.take (257 + l.toNat)) = true ∧ okB (a.drop (257 + l.toNat)) = true
                  · rw [if_pos h1, if_pos h1]
                  · rw [if_neg h1, if_neg h1]; rfl
            · rw [if_neg hk, if_neg hk]; rfl
/-- The table of sizes as a value. -/
def sizV : Value := .agg (is sizL).toArray
theorem run_indexSz (w : World) (i : Nat) (h : i < 3) : (Instr.index 140 sizV (.int .i64 (i : Int))).run Tryz.prog w = .ok (.agg #[.int .i64 (sizB i : Nat), .int .i64 (sizX i : Nat)]) w := by
  rcases (show i = 0 ∨ i = 1 ∨ i = 2 by omega) with rfl | rfl | rfl
  · kernel_rfl
  · kernel_rfl
  · kernel_rfl
theorem wpList_indexSz {ops : Array Oper} {rest : List Oper} {o : Oper} {a : Act} {w : World} {Q : Exit → Act → World → Prop} (hgd : o.guard = none) (x y : Operand) (ho : o.op = .index 140 x y) (i : Nat) (hi : i < 3) (hx : a.eval x = sizV) (hy : a.eval y = .int .i64 (i : Int))
    (h : wpList Tryz.prog ops Q rest (a.put o.dst (.agg #[.int .i64 (sizB i : Nat), .int .i64 (sizX i : Nat)])) w) : wpList Tryz.prog ops Q (o :: rest) a w := by
  refine wpList_plain hgd fun K hK => ?_
  unfold Oper.wp
  simp only [execOp, ho, hx, hy, Sem.run_bind, Sem.run_pure, run_indexSz w i hi, Result.andThen_ok]
  exact hK _ _ h
def z3 : List Int := List.replicate 3 0
theorem run_alloc3 (w : World) : (Instr.alloc 139 true (.tuple #[])).run Tryz.prog w = .ok (.pointer (some ⟨w.heap.size, 0, none⟩)) (w.alloc (.cells (is z3).toArray 139)) := by
  kernel_rfl
theorem wpList_alloc3 {ops : Array Oper} {rest : List Oper} {o : Oper} {a : Act} {w : World} {Q : Exit → Act → World → Prop} (hg : o.guard = none) (ho : o.op = .alloc 139)
    (h : wpList Tryz.prog ops Q rest (a.put o.dst (.pointer (some ⟨w.heap.size, 0, none⟩))) (w.alloc (.cells (is z3).toArray 139))) : wpList Tryz.prog ops Q (o :: rest) a w := by
  refine wpList_plain hg fun K hK => ?_
  unfold Oper.wp
  simp only [execOp, ho, Sem.run_bind, run_alloc3, Result.andThen]
  exact hK _ _ h
theorem codeM_len {n : Nat} {B l : List Int} {p q : Nat} (h : codeM n B p = .ok (l, q)) : l.length = 19 := by
  unfold codeM at h
  obtain ⟨v, q1, _, h2⟩ := bnd_ok h
  by_cases hk : okB (firstL v) = true
  · rw [if_pos hk] at h2
    cases h2
    exact firstL_length v
  · rw [if_neg hk] at h2
    cases h2
section
variable {E : En} {K : Nat → Prop} {w : World} {p : Nat} {out : By}
/-- What told answers. -/
def ToldR (E : En) (K : Nat → Prop) (w : World) (out : By) (r : Except Int ((List Int × List Int) × Nat)) (e : Ending) (w' : World) : Prop := (∃ x : Int, x ≠ 0 ∧ r = .error x ∧ e = .returned (.tuple #[prV none none, .int .i64 x]) ∧ Fr (fun _ => False) E.w0 w' ∧ Kp K w w') ∨ ∃ l m q a b S T, r = .ok ((l, m), q) ∧ e = .returned (.tuple #[prV (some a) (some b), .int .i64 0]) ∧ PC w' a l S ∧ PC w' b m T ∧ (∀ i, S i ∨ T i → ¬ K i) ∧ JS E (fun i => K i ∨ S i ∨ T i) w' q out ∧ Kp K w w'
/-- What lies there while told's numbers are read. -/
structure TG (E : En) (K : Nat → Prop) (w : World) (out : By) (gr gm : Nat) (g : List Nat) (p : Nat) (wr : World) : Prop where
  js : JS E (fun i => K i ∨ i = gr ∨ i = gm) wr p out
  kp : Kp K w wr
  cr : wr.heap[gr]? = some (prC none none)
  cm : wr.heap[gm]? = some (.cells (is (g.map Int.ofNat ++ List.replicate (3 - g.length) 0)).toArray 139 (0, 0))
  nF : ¬ E.F gr ∧ ¬ E.F gm ∧ ¬ K gr ∧ ¬ K gm ∧ gr ≠ gm
  lo : E.w0.heap.size ≤ gr
  hi : ∀ k x, g[k]? = some x → sizB k ≤ x ∧ x < sizB k + 2 ^ sizX k
theorem TG.start (h : JS E K w p out) : TG E K w out w.heap.size (w.heap.size + 1) [] p ((w.alloc (prC none none)).alloc (.cells (is z3).toArray 139)) := by
  have h1 := (Fr.refl (fun _ => False) w).alloc (prC none none)
  have h2 := h1.alloc (.cells (is z3).toArray 139)
  have hs1 : (w.alloc (prC none none)).heap.size = w.heap.size + 1 := World.size_alloc _ _
  have hs2 : ((w.alloc (prC none none)).alloc (.cells (is z3).toArray 139)).heap.size = w.heap.size + 2 := by rw [World.size_alloc, hs1]
  obtain ⟨_, _, _, _, _, _, f5⟩ := h.fx
  refine ⟨(h.new h2).less (fun i hi => ?_), h.kp h2, (Below.heap_alloc _ _ _ (by rw [hs1]; omega)).trans (heap_alloc_new _ _), ?_, ⟨fun e => by have := (f5 _ e).2; omega, fun e => by have := (f5 _ e).2; omega, fun e => by have := (h.k _ e).2; omega, fun e => by have := (h.k _ e).2; omega, by omega⟩, h.fr.size, fun k x hx => by simp at hx⟩
  · rcases hi with hi | hi | hi
    · exact Or.inl hi
    · exact Or.inr (by omega)
    · exact Or.inr (by omega)
  · have := heap_alloc_new (w.alloc (prC none none)) (.cells (is z3).toArray 139)
    rw [hs1] at this
    rw [this]
    rfl
/-- Where the call ends: the pair is set, the stream's other blocks are kept. -/
theorem TG.fin {gr gm p1 : Nat} {g : List Nat} {wr w2 : World} (h : TG E K w out gr gm g p1 wr) (hF : Fr (fun _ => False) E.w0 w2) (hk : Kp (fun i => K i ∨ i = gr ∨ i = gm) wr w2) (a' b' : Option Addr) :
    (w2.cell? ⟨gr, 0, none⟩ = some (.pointer none) ∧ w2.cell? ⟨gr, 1, none⟩ = some (.pointer none) ∧ w2.frozen? ⟨gr, 0, none⟩ = false ∧ w2.frozen? ⟨gr, 1, none⟩ = false) ∧ ((w2.setCell ⟨gr, 0, none⟩ (.pointer a')).setCell ⟨gr, 1, none⟩ (.pointer b')).heap[gr]? = some (prC a' b') ∧ Fr (fun _ => False) E.w0 ((w2.setCell ⟨gr, 0, none⟩ (.pointer a')).setCell ⟨gr, 1, none⟩ (.pointer b')) ∧ Kp K w ((w2.setCell ⟨gr, 0, none⟩ (.pointer a')).setCell ⟨gr, 1, none⟩ (.pointer b')) ∧ Fr (· = gr) w2 ((w2.setCell ⟨gr, 0, none⟩ (.pointer a')).setCell ⟨gr, 1, none⟩ (.pointer b')) := by
  have hc := (hk gr (Or.inr (Or.inl rfl))).trans h.cr
  obtain ⟨h1, h2, h3, h4, h5, h6, h7⟩ := pair_set (a' := a') (b' := b') hc h.lo hF
  refine ⟨⟨h1, h2, h3, h4⟩, h5, h6, (h.kp.trans (hk.mono (fun _ e => Or.inl e))).trans (fun i hi => ?_), h7⟩
  have hne : i ≠ gr := fun e => h.nF.2.2.1 (by rw [← e]; exact hi)
  exact (Below.heap_setCell _ _ _ _ hne).trans (Below.heap_setCell _ _ _ _ hne)
theorem TG.cell {gr gm p1 : Nat} {g : List Nat} {wr : World} (h : TG E K w out gr gm g p1 wr) {k x : Nat} (hk : g[k]? = some x) : wr.cell? ⟨gm, k, none⟩ = some (.int .i64 (x : Int)) := by
  rw [cellAt h.cm, List.getElem?_toArray, is_get, List.getElem?_append_left (by rw [List.length_map]; exact (List.getElem?_eq_some_iff.1 hk).1), List.getElem?_map, hk]
  rfl
/-- One number more. -/
theorem TG.next {gr gm p1 i n bs x : Nat} {g : List Nat} {wr w2 : World} (h : TG E K w out gr gm g p1 wr) (hi : g.length = i) (h3 : i < 3) (hbs : bs = sizB i) (hn : n = sizX i) (hx : x < 2 ^ n) (hj : JS E (fun i => K i ∨ i = gr ∨ i = gm) w2 (p1 + n) out) (hk : Kp (fun i => K i ∨ i = gr ∨ i = gm) wr w2) :
    (w2.cell? ⟨gm, i, none⟩ = some (.int .i64 0) ∧ w2.frozen? ⟨gm, i, none⟩ = false) ∧ TG E K w out gr gm (g ++ [bs + x]) (p1 + n) (w2.setCell ⟨gm, i, none⟩ (.int .i64 ((bs + x : Nat) : Int))) := by
  have hc := (hk gm (Or.inr (Or.inr rfl))).trans h.cm
  have hS : Fr (· = gm) w2 (w2.setCell ⟨gm, i, none⟩ (.int .i64 ((bs + x : Nat) : Int))) := (Fr.refl (· = gm) w2).setCell (p := ⟨gm, i, none⟩) (Or.inl rfl) _
  have hl : (g.map Int.ofNat).length = i := by rw [List.length_map, hi]
  obtain ⟨m, hm⟩ : ∃ m, 3 - i = m + 1 := ⟨3 - i - 1, by omega⟩
  rw [hi, hm, List.replicate_succ] at hc
  refine ⟨⟨?_, freeAt hc i⟩, ⟨(hj.mine hS (fun j e => ⟨Or.inr (Or.inr e), by rw [e]; exact h.nF.2.1⟩)).less (fun _ e => Or.inl e), (h.kp.trans (hk.mono (fun _ e => Or.inl e))).trans (fun j hj => Below.heap_setCell _ _ _ _ (fun e => h.nF.2.2.2.1 (by have e2 : j = gm := e; rw [← e2]; exact hj))), ?_, ?_, h.nF, h.lo, fun k y hy => ?_⟩⟩
  · rw [cellAt hc, List.getElem?_toArray, is_get, List.getElem?_append_right (by rw [hl]; exact Nat.le_refl _), hl, Nat.sub_self]
    rfl
  · exact (Below.heap_setCell _ _ _ _ h.nF.2.2.2.2).trans ((hk gr (Or.inr (Or.inl rfl))).trans h.cr)
  · rw [heap_setCell_same _ _ _ _ _ _ hc, show 3 - (g ++ [bs + x]).length = m by rw [List.length_append, hi]; simp; omega]
    have e : (is (g.map Int.ofNat ++ 0 :: List.replicate m 0)).set i (.int .i64 ((bs + x : Nat) : Int)) = is ((g ++ [bs + x]).map Int.ofNat ++ List.replicate m 0) := by
      rw [is_set, List.set_append_right _ _ (by rw [hl]; exact Nat.le_refl _), hl, Nat.sub_self, List.set_cons_zero, List.map_append, List.append_assoc]
      rfl
    rw [← e]
    simp
  · rcases Nat.lt_or_ge k g.length with hkl | hkl
    · rw [List.getElem?_append_left hkl] at hy
      exact h.hi k y hy
    · rw [List.getElem?_append_right hkl] at hy
      have : k = i := by
        apply Decidable.byContradiction
        intro hne
        rw [List.getElem?_eq_none (by simp; omega)] at hy
        cases hy
      subst this
      rw [hi, Nat.sub_self] at hy
      cases hy
      rw [← hbs, ← hn]
      omega
theorem cutI_low (w : World) (A : Option Addr) (n c k : Nat) (hk : k ≤ c) :
    (Instr.slice 66 (.slice A n c) none (some (.int .i64 (k : Int))) none).run Tryz.prog w = .ok (.slice A k c) w := by
  rw [run_slice_h w 66 A n c Tryz.underlying66 .i64 k (by omega) (by omega)]
  have hs : (sizeOf (Tryz.prog.elem 66)).run Tryz.prog w = .ok 1 w := by kernel_rfl
  rw [hs]
  simp only [Result.andThen, sliced, Int.toNat_natCast, Nat.zero_mul, Nat.sub_zero]
  have : A.map (·.add 0) = A := by cases A <;> simp [add_zero]
  rw [this, ite_self]
theorem cutI_high (w : World) (A : Option Addr) (n c k : Nat) (hk : k ≤ n) :
    (Instr.slice 66 (.slice A n c) (some (.int .i64 (k : Int))) none none).run Tryz.prog w = .ok (.slice (if c = k then A else A.map (·.add k)) (n - k) (c - k)) w := by
  rw [run_slice_l w 66 A n c Tryz.underlying66 .i64 k (by omega) (by omega)]
  have hs : (sizeOf (Tryz.prog.elem 66)).run Tryz.prog w = .ok 1 w := by kernel_rfl
  rw [hs]
  simp only [Result.andThen, sliced, Int.toNat_natCast, Nat.mul_one]
set_option maxHeartbeats 8000000 in
theorem ptold (hT : Tabs E.w0) (h : JS E K w p out) : Calls Tryz.prog 98 #[.pointer (some ⟨E.g, 0, none⟩)] w (ToldR E K w out (told0 (bitsOf E.b) p)) := by
  have H0 := Lib.hid (TG.start h)
  obtain ⟨gr, hgr⟩ : ∃ gr, gr = w.heap.size := ⟨_, rfl⟩
  obtain ⟨gm, hgm⟩ : ∃ gm, gm = gr + 1 := ⟨_, rfl⟩
  obtain ⟨U, hU⟩ : ∃ U, U = told0 (bitsOf E.b) p := ⟨_, rfl⟩
  have HU := Lib.hid hU
  have HT := Lib.hid hT
  have htb := H0.out.js.tab hT
  have s0 := htb.siz 0 _ rfl
  have s1 := htb.siz 1 _ rfl
  have s2 := htb.siz 2 _ rfl
  have s3 := htb.siz 3 _ rfl
  have s4 := htb.siz 4 _ rfl
  have s5 := htb.siz 5 _ rfl
  rw [← hU]
  clear h hU hT htb
  go_enter Tryz.func98, Tryz.ntmps98
  go_wp2_with (refine wpList_alloc3 rfl rfl ?_)
  rw [← hgr] at H0 ⊢
  rw [← hgm] at H0 ⊢
  clear s0 s1 s2 s3 s4 s5 hgr hgm
  go_loopw [5, 6, 7, 8, 15] (fun _ _ _ _ v15 wr => ∃ (i p1 : Nat) (g : List Nat), i ≤ 3 ∧ v15 = .int .i64 i ∧ Hid (g.length = i ∧ TG E K w out gr gm g p1 wr ∧ U = toldG g (bitsOf E.b) p1)) (fun _ _ _ _ v _ => 3 - (intOf v).toNat)
  case atStart => exact ⟨0, p, [], by omega, rfl, (show _ ∧ _ ∧ _ from ⟨rfl, H0.out, HU.out⟩)⟩
  case round =>
    obtain ⟨i, p1, g, hi, rfl, HC⟩ := hrel
    clear H0 HU
    by_cases hlt : i < 3
    · have HST := Lib.hid (toldG_step HC.out.1 hlt)
      have hbn : sizB i ≤ 257 ∧ sizX i ≤ 5 := by
        have : ∀ i, i < 3 → sizB i ≤ 257 ∧ sizX i ≤ 5 := by decide
        exact this i hlt
      have hi0 : (0 : Int) ≤ (i : Int) := by omega
      have hi3 : (i : Int) < 3 := by omega
      obtain ⟨bs, hbs⟩ : ∃ bs, bs = sizB i := ⟨_, rfl⟩
      obtain ⟨n, hn⟩ : ∃ n, n = sizX i := ⟨_, rfl⟩
      have HIX := Lib.hid (⟨hbs, hn⟩ : bs = sizB i ∧ n = sizX i)
      rw [← hbs, ← hn] at hbn HST
      rcases tk_two (n := n) (by omega) E p1 with ht | ⟨x, ht, hx⟩
      · have HN := Lib.hid (number_no HC.out.2.1.js bs (by omega) (by omega) ht)
        have HE := Lib.hid (show U = .error 7 by rw [HC.out.2.2, HST.out, bnd_err ht])
        clear ht hbs hn
        go_wp2_with (refine wpList_indexSz rfl _ _ rfl i hlt rfl rfl ?_; rw [← HIX.out.1, ← HIX.out.2])
        refine (HN.out _ (by first | exact (Fr.refl _ _).alloc _ | exact (((Fr.refl _ _).alloc _).setCell (Or.inr (Nat.le_refl _)) _).setCell (Or.inr (Nat.le_refl _)) _)).mono ?_
        rintro e w2 ⟨⟨v, rfl⟩, hf, hk⟩
        have HFN := Lib.hid (HC.out.2.1.fin hf hk none none)
        obtain ⟨⟨y0, y1, z0, z1⟩, -⟩ := HFN.out
        clear hf hk
        go_wp2_with fail
        obtain ⟨-, p5, p6, p7, -⟩ := HFN.out
        exact bodyPost_ret (v := .tuple #[prV none none, .int .i64 7]) (results_pair rfl _ _ gr #[.pointer none, .pointer none] (.int .i64 7) rfl rfl rfl p5) rfl (Or.inl ⟨7, by decide, HE.out, rfl, p6, p7⟩)
      · have hx5 : x < 2 ^ 5 := Nat.lt_of_lt_of_le hx (Nat.pow_le_pow_right (by omega) hbn.2)
        have HN := Lib.hid (number_ok HC.out.2.1.js bs (by omega) (by omega) ht (by omega))
        have HON := Lib.hid (show U = toldG (g ++ [bs + x]) (bitsOf E.b) (p1 + n) by rw [HC.out.2.2, HST.out, bnd_of ht, Int.toNat_natCast, HIX.out.1])
        have HX := Lib.hid hx
        clear ht hbs hn hx
        go_wp2_with (refine wpList_indexSz rfl _ _ rfl i hlt rfl rfl ?_; rw [← HIX.out.1, ← HIX.out.2])
        refine (HN.out _ (by first | exact (Fr.refl _ _).alloc _ | exact (((Fr.refl _ _).alloc _).setCell (Or.inr (Nat.le_refl _)) _).setCell (Or.inr (Nat.le_refl _)) _)).mono ?_
        rintro e w2 ⟨rfl, hj, hk⟩
        have HNX := Lib.hid (HC.out.2.1.next HC.out.1 hlt HIX.out.1 HIX.out.2 HX.out hj hk)
        obtain ⟨⟨y0, z0⟩, -⟩ := HNX.out
        have H2 := Lib.hid (show (g ++ [bs + x]).length = i + 1 ∧ TG E K w out gr gm (g ++ [bs + x]) (p1 + n) (w2.setCell ⟨gm, i, none⟩ (.int .i64 ((bs + x : Nat) : Int))) ∧ U = toldG (g ++ [bs + x]) (bitsOf E.b) (p1 + n) from ⟨by rw [List.length_append, HC.out.1]; rfl, HNX.out.2, HON.out⟩)
        clear hj hk
        go_wp2_with fail
        go_roundw
        case rel => exact ⟨i + 1, p1 + n, _, by omega, by go_num, H2⟩
        case measure => simp [intOf]; omega
    · obtain rfl : i = 3 := by omega
      obtain ⟨s, o, c, rfl⟩ : ∃ s o c, g = [s, o, c] := by
        match g, HC.out.1 with
        | [s, o, c], _ => exact ⟨s, o, c, rfl⟩
      have b0 := HC.out.2.1.hi 0 s rfl
      have b1 := HC.out.2.1.hi 1 o rfl
      have b2 := HC.out.2.1.hi 2 c rfl
      have b0 : 257 ≤ s ∧ s < 257 + 32 := b0
      have b1 : 1 ≤ o ∧ o < 1 + 32 := b1
      have b2 : 4 ≤ c ∧ c < 4 + 16 := b2
      have c0 := HC.out.2.1.cell (k := 0) rfl
      have c1 := HC.out.2.1.cell (k := 1) rfl
      have c2 := HC.out.2.1.cell (k := 2) rfl
      have HUR := Lib.hid (show U = restM s o c (bitsOf E.b) p1 from HC.out.2.2)
      go_wp2_with fail
      have HFD := Lib.hid (show Fr (fun _ => False) wr wr.drew from (Fr.refl _ _).drew)
      have HJD := Lib.hid (HC.out.2.1.js.still HFD.out)
      have HKD := Lib.hid (HC.out.2.1.js.kp HFD.out)
      by_cases h1 : 286 < s ∨ 30 < o
      · have HE := Lib.hid (show U = .error 110 by rw [HUR.out]; unfold restM; rw [if_pos h1]; rfl)
        have HFN := Lib.hid (HC.out.2.1.fin HC.out.2.1.js.fr (fun _ _ => rfl) none none)
        obtain ⟨⟨y0, y1, z0, z1⟩, -⟩ := HFN.out
        by_cases h2 : 286 < s
        · go_region
          all_goals
            go_wp2_with fail
            obtain ⟨-, p5, p6, p7, -⟩ := HFN.out
            exact bodyPost_ret (v := .tuple #[prV none none, .int .i64 110]) (results_pair rfl _ _ gr #[.pointer none, .pointer none] (.int .i64 110) rfl rfl rfl p5) rfl (Or.inl ⟨110, by decide, HE.out, rfl, p6.drew, p7⟩)
        · have h3 : 30 < o := by omega
          go_region
          all_goals
            go_wp2_with fail
            obtain ⟨-, p5, p6, p7, -⟩ := HFN.out
            exact bodyPost_ret (v := .tuple #[prV none none, .int .i64 110]) (results_pair rfl _ _ gr #[.pointer none, .pointer none] (.int .i64 110) rfl rfl rfl p5) rfl (Or.inl ⟨110, by decide, HE.out, rfl, p6.drew, p7⟩)
      · have h2 : ¬ 286 < s := by omega
        have h3 : ¬ 30 < o := by omega
        have HPC := Lib.hid (pcodeFor HT.out HJD.out c (by omega))
        have HB := Lib.hid (show U = bnd (codeM c) (fun f => bnd (lensM f (s + o)) fun a => if (a[256]?).getD 0 = 0 then err 110 else if okB (a.take s) = true ∧ okB (a.drop s) = true then ret (a.take s, a.drop s) else err 110) (bitsOf E.b) p1 by rw [HUR.out]; unfold restM; rw [if_neg h1])
        have c2d : wr.drew.cell? ⟨gm, 2, none⟩ = some (.int .i64 (c : Int)) := c2
        go_region
        all_goals
          go_wp2_with fail
          refine HPC.out.mono ?_
          rintro e w2 (⟨x, hx, g1, rfl, g2, g3⟩ | ⟨f, q, a, S, g1, rfl, g2, g3, g4⟩)
          · have HE := Lib.hid (show U = .error x by rw [HB.out, bnd_err g1])
            have HFN := Lib.hid (HC.out.2.1.fin g2 (HKD.out.trans g3) none none)
            obtain ⟨⟨y0, y1, z0, z1⟩, -⟩ := HFN.out
            clear g1 g2 g3
            go_wp2_with fail
            obtain ⟨-, p5, p6, p7, -⟩ := HFN.out
            exact bodyPost_ret (v := .tuple #[prV none none, .int .i64 x]) (results_pair rfl _ _ gr #[.pointer none, .pointer none] (.int .i64 x) rfl rfl rfl p5) rfl (Or.inl ⟨x, hx, HE.out, rfl, p6, p7⟩)
          · obtain ⟨n, hn⟩ : ∃ n, n = s + o := ⟨_, rfl⟩
            have hn1 : (s : Int) + (o : Int) = (n : Int) := by omega
            have hn2 : IntKind.i64.wrap (n : Int) = (n : Int) := IntWalk.i64_in _ (by omega)
            have HLN := Lib.hid (plengths HT.out g3 (cds_of g2 (fun i hi => Or.inr hi)) (by rw [codeM_len g1]; omega) n (by omega))
            have HB2 := Lib.hid (show U = bnd (lensM f n) (fun a => if (a[256]?).getD 0 = 0 then err 110 else if okB (a.take s) = true ∧ okB (a.drop s) = true then ret (a.take s, a.drop s) else err 110) (bitsOf E.b) q by rw [HB.out, bnd_of g1, hn])
            have HK2 := Lib.hid (HKD.out.trans g4)
            have HNN := Lib.hid hn
            clear g1 g2 g3 g4 hn
            go_wp2_with fail
            refine HLN.out.mono ?_
            rintro e w3 (⟨x, hx, g1, rfl, g2, g3⟩ | ⟨L, q2, A, cap, g1, hlen, hin, rfl, ho, hj, hk⟩)
            · have HE := Lib.hid (show U = .error x by rw [HB2.out, bnd_err g1])
              have HFN := Lib.hid (HC.out.2.1.fin g2 (HK2.out.trans (g3.mono (fun _ e => Or.inl e))) none none)
              obtain ⟨⟨y0, y1, z0, z1⟩, -⟩ := HFN.out
              clear g1 g2 g3
              go_wp2_with fail
              obtain ⟨-, p5, p6, p7, -⟩ := HFN.out
              exact bodyPost_ret (v := .tuple #[prV none none, .int .i64 x]) (results_pair rfl _ _ gr #[.pointer none, .pointer none] (.int .i64 x) rfl rfl rfl p5) rfl (Or.inl ⟨x, hx, HE.out, rfl, p6, p7⟩)
            · have hO : OwnI w3 E.w0.heap.size (.slice A L.length cap) L := by unfold OwnI; rw [hlen]; exact ho
              have hcap : n ≤ cap := by
                rcases ho.2 with ⟨e, e0⟩ | ⟨_, _, _, e, _, _, hnc, _⟩
                · omega
                · cases e
                  exact hnc
              obtain ⟨ga, rfl, hga1, hga2, hcell, _⟩ := hO.at_ (k := 256) (by have := HNN.out; omega)
              have hL256 : L[256]? = some L[256] := List.getElem?_eq_getElem _
              obtain ⟨y, hy⟩ : ∃ y, y = L[256] := ⟨_, rfl⟩
              rw [← hy] at hcell hL256
              have HB3 := Lib.hid (show U = (if y = 0 then err 110 else if okB (L.take s) = true ∧ okB (L.drop s) = true then ret (L.take s, L.drop s) else err 110) (bitsOf E.b) q2 by rw [HB2.out, bnd_of g1, hL256]; rfl)
              have HK3 := Lib.hid (HK2.out.trans (hk.mono (fun _ e => Or.inl e)))
              have HJ3 := Lib.hid hj
              have hn256 : (256 : Int) < (n : Int) := by have := HNN.out; omega
              have HRI := Lib.hid (hO.rd (fun x hx => by have := hin x hx; omega))
              clear hO ho hj hk hy hL256 g1 hga1 hga2
              by_cases hy0 : y = 0
              · subst hy0
                have HE := Lib.hid (show U = .error 110 by rw [HB3.out, if_pos rfl]; rfl)
                have HFN := Lib.hid (HC.out.2.1.fin HJ3.out.fr HK3.out none none)
                obtain ⟨⟨y0, y1, z0, z1⟩, -⟩ := HFN.out
                go_wp2_with fail
                obtain ⟨-, p5, p6, p7, -⟩ := HFN.out
                exact bodyPost_ret (v := .tuple #[prV none none, .int .i64 110]) (results_pair rfl _ _ gr #[.pointer none, .pointer none] (.int .i64 110) rfl rfl rfl p5) rfl (Or.inl ⟨110, by decide, HE.out, rfl, p6, p7⟩)
              · have hsn : s ≤ n := by have := HNN.out; omega
                have hlo : ∀ wx : World, (Instr.slice 66 (.slice (some ⟨ga, 0, none⟩) n cap) none (some (.int .i64 (s : Int))) none).run Tryz.prog wx = .ok (.slice (some ⟨ga, 0, none⟩) s cap) wx := fun wx => cutI_low wx _ n cap s (by omega)
                obtain ⟨A2, hA2⟩ : ∃ A2, A2 = (if cap = s then (some ⟨ga, 0, none⟩ : Option Addr) else (some (⟨ga, 0, none⟩ : Addr)).map (·.add s)) := ⟨_, rfl⟩
                obtain ⟨c2, hc2⟩ : ∃ c2, c2 = cap - s := ⟨_, rfl⟩
                have hhi : ∀ wx : World, (Instr.slice 66 (.slice (some ⟨ga, 0, none⟩) n cap) (some (.int .i64 (s : Int))) none none).run Tryz.prog wx = .ok (.slice A2 o c2) wx := fun wx => by
                  rw [hA2, hc2, show o = n - s by have := HNN.out; omega]
                  exact cutI_high wx _ n cap s hsn
                have hlt1 : (L.take s).length = s := by rw [List.length_take]; omega
                have hlt2 : (L.drop s).length = o := by rw [List.length_drop]; have := HNN.out; omega
                have HPA := Lib.hid (show ∀ wx, Fr (fun _ => False) w3 wx → Calls Tryz.prog 72 #[.slice (some ⟨ga, 0, none⟩) s cap, .slice A2 o c2] wx (PairA wx (L.take s) (L.drop s)) from fun wx hF => by
                  have hR := HRI.out.still hF (Nat.le_refl _)
                  have h1 := ppairOf wx (some ⟨ga, 0, none⟩) cap (L.take s) (rdI_more ⟨fun hne => by
                    obtain ⟨blk, off, e, e1, e2⟩ := hR.1 (fun e0 => hne (by rw [e0]; simp))
                    exact ⟨blk, off, e, e1, fun j x hj => e2 j x (by rw [List.getElem?_take] at hj; split at hj; exact hj; cases hj)⟩, fun x hx => hR.2 x (List.mem_of_mem_take hx)⟩ hF.size) (by omega) A2 c2 (L.drop s) (rdI_more ⟨fun hne => by
                    obtain ⟨blk, off, e, e1, e2⟩ := hR.1 (fun e0 => hne (by rw [e0]; simp))
                    cases e
                    have hne2 : ¬ cap = s := fun e3 => hne (List.eq_nil_of_length_eq_zero (by rw [hlt2]; have := HNN.out; omega))
                    refine ⟨ga, s, by rw [hA2, if_neg hne2]; show some ((⟨ga, 0, none⟩ : Addr).add s) = _; rw [add_plain, Nat.zero_add], e1, fun j x hj => ?_⟩
                    rw [List.getElem?_drop] at hj
                    have := e2 (s + j) x hj
                    rwa [Nat.zero_add] at this, fun x hx => hR.2 x (List.mem_of_mem_drop hx)⟩ hF.size) (by omega)
                  rw [hlt1, hlt2] at h1
                  exact h1)
                by_cases hok : okB (L.take s) = true ∧ okB (L.drop s) = true
                · have HE := Lib.hid (show U = .ok ((L.take s, L.drop s), q2) by rw [HB3.out, if_neg hy0, if_pos hok]; rfl)
                  have HPO := Lib.hid (show ∀ wx, Fr (fun _ => False) w3 wx → Calls Tryz.prog 72 #[.slice (some ⟨ga, 0, none⟩) s cap, .slice A2 o c2] wx (fun e w' => ∃ a b S T, e = .returned (.tuple #[prV (some a) (some b), .int .i64 0]) ∧ PC w' a (L.take s) S ∧ PC w' b (L.drop s) T ∧ (∀ i, S i → wx.heap.size ≤ i) ∧ (∀ i, T i → wx.heap.size ≤ i) ∧ Fr (fun _ => False) wx w') from fun wx hF => (HPA.out wx hF).mono fun e w' hg => by
                    rcases hg with ⟨_, hg⟩ | ⟨hno, _⟩
                    · exact hg
                    · exact absurd hok hno)
                  have hgrs : gr < w3.heap.size := by
                    have := (HJ3.out.k gr (Or.inl (Or.inl (Or.inr (Or.inl rfl))))).2
                    exact this
                  clear HPA hA2 hc2 hlt1 hlt2 hok HRI
                  go_wp2_with fail
                  go_region_with (go_at_call 72; refine (HPO.out _ (by first | exact Fr.refl _ _ | exact (Fr.refl _ _).drew | exact (Fr.refl _ _).drewN _)).mono ?_; rintro e w5 ⟨a5, b5, S5, T5, rfl, g1, g2, g3, g4, g5⟩; have HF5 := Lib.hid (show Fr (fun _ => False) w3 w5 from ((Fr.refl _ w3).drew).trans g5 (fun _ _ e => e)); have HFN := Lib.hid (HC.out.2.1.fin (HJ3.out.fr.trans HF5.out (fun _ _ e => e)) (HK3.out.trans ((HJ3.out.kp HF5.out).mono (fun _ e => Or.inl (Or.inl e)))) (some a5) (some b5)); obtain ⟨⟨y0, y1, z0, z1⟩, -⟩ := HFN.out; have H5 := Lib.hid (show PC w5 a5 (L.take s) S5 ∧ PC w5 b5 (L.drop s) T5 ∧ (∀ i, S5 i → w3.heap.size ≤ i) ∧ (∀ i, T5 i → w3.heap.size ≤ i) from ⟨g1, g2, g3, g4⟩); clear g1 g2 g3 g4 g5)
                  all_goals
                    go_wp2_with fail
                    obtain ⟨-, p5, p6, p7, p8⟩ := HFN.out
                    refine bodyPost_ret (v := .tuple #[prV (some a5) (some b5), .int .i64 0]) (results_pair rfl _ _ gr #[.pointer (some a5), .pointer (some b5)] (.int .i64 0) rfl rfl rfl p5) rfl (Or.inr ⟨_, _, _, a5, b5, S5, T5, HE.out, rfl, ?_, ?_, fun i hi hk => ?_, ?_, p7⟩)
                    · exact code_all.c_keep H5.out.1 p8 (fun i hi e => by have := H5.out.2.2.1 i hi; omega)
                    · exact code_all.c_keep H5.out.2.1 p8 (fun i hi e => by have := H5.out.2.2.2 i hi; omega)
                    · have h1 := (HJ3.out.k i (Or.inl (Or.inl (Or.inl hk)))).2
                      rcases hi with hi | hi
                      · have := H5.out.2.2.1 i hi; omega
                      · have := H5.out.2.2.2 i hi; omega
                    · refine ((HJ3.out.new HF5.out).mine p8 (fun i hi => ⟨Or.inl (Or.inl (Or.inl (Or.inr (Or.inl hi)))), by rw [hi]; exact HC.out.2.1.nF.1⟩)).less (fun i hi => ?_)
                      rcases hi with hi | hi | hi
                      · exact Or.inl (Or.inl (Or.inl (Or.inl (Or.inl hi))))
                      · exact Or.inl (Or.inr ⟨H5.out.2.2.1 i hi, (code_all.c_in H5.out.1).1 i hi⟩)
                      · exact Or.inl (Or.inr ⟨H5.out.2.2.2 i hi, (code_all.c_in H5.out.2.1).1 i hi⟩)
                · have HE := Lib.hid (show U = .error 110 by rw [HB3.out, if_neg hy0, if_neg hok]; rfl)
                  have HPO := Lib.hid (show ∀ wx, Fr (fun _ => False) w3 wx → Calls Tryz.prog 72 #[.slice (some ⟨ga, 0, none⟩) s cap, .slice A2 o c2] wx (fun e w' => e = .returned (.tuple #[prV none none, .int .i64 110]) ∧ Fr (fun _ => False) wx w') from fun wx hF => (HPA.out wx hF).mono fun e w' hg => by
                    rcases hg with ⟨hy, _⟩ | ⟨_, hg⟩
                    · exact absurd hy hok
                    · exact hg)
                  clear HPA hA2 hc2 hlt1 hlt2 hok HRI
                  go_wp2_with fail
                  go_region_with (go_at_call 72; refine (HPO.out _ (by first | exact Fr.refl _ _ | exact (Fr.refl _ _).drew | exact (Fr.refl _ _).drewN _)).mono ?_; rintro e w5 ⟨rfl, g5⟩; have HF5 := Lib.hid (show Fr (fun _ => False) w3 w5 from ((Fr.refl _ w3).drew).trans g5 (fun _ _ e => e)); have HFN := Lib.hid (HC.out.2.1.fin (HJ3.out.fr.trans HF5.out (fun _ _ e => e)) (HK3.out.trans ((HJ3.out.kp HF5.out).mono (fun _ e => Or.inl (Or.inl e)))) none none); obtain ⟨⟨y0, y1, z0, z1⟩, -⟩ := HFN.out; clear g5)
                  all_goals
                    go_wp2_with fail
                    obtain ⟨-, p5, p6, p7, -⟩ := HFN.out
                    exact bodyPost_ret (v := .tuple #[prV none none, .int .i64 110]) (results_pair rfl _ _ gr #[.pointer none, .pointer none] (.int .i64 110) rfl rfl rfl p5) rfl (Or.inl ⟨110, by decide, HE.out, rfl, p6, p7⟩)
end
end Go.Proofs.YtcdhakfmljjaoaaGreatDoor.ft
