/-
  Commit.
-/
import Derived.Test.YtflapnbpaodhaaaGreatDoorHd2
import Derived.Deep.RegionLawGrows
namespace Go.Proofs.YtflapnbpaodhaaaGreatDoor.hd
set_option maxRecDepth 100000
open Go.RowKit Go.Maps ds
set_option maxRecDepth 100000

theorem infoStep : (Tryz.prog.info? 88).map (fun i => (i.zero, i.size, i.bytes)) = some (some .nilFunc, 1, 8) := by kernel_rfl

def nextT (t0 : Nat) : Nat := (t0 + 1) % 4294967296
/-- What a commit of sectors, rising by home, does, answers, and leaves of the log. -/
def comR (N at_ rc : Nat) (d : DS) (t0 : Nat) (sp : Bool) (l : List (Int × List UInt8)) : DS × Int × Nat × Bool :=
  if refR ((at_ + 1 + rc : Nat) : Int) N rc l ≠ 0 then (d, refR ((at_ + 1 + rc : Nat) : Int) N rc l, t0, sp)
  else if l = [] then (d, 0, t0, sp)
  else if sp = true then (d, 10, t0, sp)
  else ((commitR d at_ t0 (nextT t0) l).1, (commitR d at_ t0 (nextT t0) l).2.1, (commitR d at_ t0 (nextT t0) l).2.2, decide ((commitR d at_ t0 (nextT t0) l).2.1 ≠ 0))
def ComPost (w0 w : World) (pb N B wb at_ rc : Nat) (r : DS × Int × Nat × Bool) (e : Ending) (w' : World) : Prop :=
  e = .returned (.int .i64 r.2.1) ∧ IsD w0 pb N (B + 500) r.1 w' ∧ w'.heap[wb]? = some (walO pb at_ rc r.2.2.1 r.2.2.2) ∧ Keep2 w w'

/-- The parts of a log's steps, and of those that bring home. -/
def LogF (w : World) (g : Nat) (v1 v2 : Value) (p1 : Option Addr) (c1 : Nat) (p2 : Option Addr) (gt gw wb pb at_ rc turn n : Nat) (l : List (Int × List UInt8)) : Prop :=
  w.heap[g]? = some (.cells #[v1, v2, .func (.func 55) #[] #[.pointer (some ⟨gt, 0, none⟩), .pointer (some ⟨gw, 0, none⟩)]] 88 (0, 0)) ∧
    StepW w v1 pb at_ rc p1 n c1 ∧ BksT w p1 (aheadF (at_ + 1) l) ∧ StepW w v2 pb at_ rc p2 1 1 ∧ BksT w p2 [((at_ : Int), hdrL turn l)] ∧
    w.heap[gt]? = some (.cells #[.int .i64 (turn : Int)] 3 (0, 0)) ∧ w.heap[gw]? = some (.cells #[.pointer (some ⟨wb, 0, none⟩)] 27 (0, 0))
def BrF (w : World) (g : Nat) (v4 v5 : Value) (p : Option Addr) (n cap : Nat) (p5 : Option Addr) (pb at_ rc turn : Nat) : Prop :=
  w.heap[g]? = some (.cells #[v4, v5] 88 (0, 0)) ∧ StepW w v4 pb at_ rc p n cap ∧ StepW w v5 pb at_ rc p5 1 1 ∧ BksT w p5 [((at_ : Int), hdrL turn [])]
theorem fr_blk {w w' : World} (hF : Fr (fun _ => False) w w') {g : Nat} {o : Obj} (h : w.heap[g]? = some o) : w'.heap[g]? = some o := (hF.block g (Array.getElem?_eq_some_iff.1 h).1 id).trans h
theorem LogF.calm {w w' : World} {g : Nat} {v1 v2 : Value} {p1 : Option Addr} {c1 : Nat} {p2 : Option Addr} {gt gw wb pb at_ rc turn n : Nat} {l : List (Int × List UInt8)} (h : LogF w g v1 v2 p1 c1 p2 gt gw wb pb at_ rc turn n l) (hF : Fr (fun _ => False) w w') : LogF w' g v1 v2 p1 c1 p2 gt gw wb pb at_ rc turn n l := by
  obtain ⟨a, b, c, d, e, f, k⟩ := h
  have hk := keep_two (Keep.of_fr hF)
  exact ⟨fr_blk hF a, step_keep2 b hk, c.keep2 hk, step_keep2 d hk, e.keep2 hk, fr_blk hF f, fr_blk hF k⟩
theorem BrF.calm {w w' : World} {g : Nat} {v4 v5 : Value} {p : Option Addr} {n cap : Nat} {p5 : Option Addr} {pb at_ rc turn : Nat} (h : BrF w g v4 v5 p n cap p5 pb at_ rc turn) (hF : Fr (fun _ => False) w w') : BrF w' g v4 v5 p n cap p5 pb at_ rc turn := by
  obtain ⟨a, b, c, d⟩ := h
  have hk := keep_two (Keep.of_fr hF)
  exact ⟨fr_blk hF a, step_keep2 b hk, step_keep2 c hk, d.keep2 hk⟩
/-- What stands while the steps are made. -/
structure Cm (w0 w2 : World) (pb N B : Nat) (d : DS) (wb at_ rc t0 : Nat) (p : Option Addr) (l : List (Int × List UInt8)) (wr : World) : Prop where
  wal : wr.heap[wb]? = some (walO pb at_ rc t0 false)
  dsk : IsD w0 pb N B d wr
  bks : BksT wr p l
  fr : Fr (fun _ => False) w2 wr
theorem Cm.calm {w0 w2 wr w' : World} {pb N B wb at_ rc t0 : Nat} {d : DS} {p : Option Addr} {l : List (Int × List UInt8)} (h : Cm w0 w2 pb N B d wb at_ rc t0 p l wr) (hF : Fr (fun _ => False) wr w') : Cm w0 w2 pb N B d wb at_ rc t0 p l w' :=
  ⟨fr_blk hF h.wal, h.dsk.calm hF, h.bks.keep (Keep.of_fr hF), h.fr.trans hF (fun _ _ e => e)⟩
theorem Cm.held {w0 w2 wr : World} {pb N B wb at_ rc t0 : Nat} {d : DS} {p : Option Addr} {l : List (Int × List UInt8)} (h : Cm w0 w2 pb N B d wb at_ rc t0 p l wr) : wr.cell? ⟨wb, 0, none⟩ = some (.pointer (some ⟨pb, 0, none⟩)) ∧ wr.cell? ⟨wb, 1, none⟩ = some (.int .i64 (at_ : Int)) ∧ wr.cell? ⟨wb, 2, none⟩ = some (.int .i64 (rc : Int)) := by
  obtain ⟨a, b, c, _⟩ := wal_c h.wal
  exact ⟨a, b, c⟩
theorem fr_none {w w' : World} (h : w.grownBy w' none) : Fr (fun _ => False) w w' := (Fr.refl _ w).grown h (fun k e => by cases e)
theorem row_cells (w : World) {g : Nat} {cs : List Value} {t : TypeId} (h : w.heap[g]? = some (.cells cs.toArray t (0, 0))) : ∀ (j : Nat) u, cs[j]? = some u → w.cell? ((⟨g, 0, none⟩ : Addr).add j) = some u := fun j u hu => by
  rw [add_plain, cellAt h, Nat.zero_add]
  exact (toArr_get cs j).trans hu
/-- The five steps, in their row. -/
theorem five_run {w0 w2 w9 : World} {pb N B wb at_ rc t0 turn n cap : Nat} {d : DS} {p : Option Addr} {l : List (Int × List UInt8)} {g gb : Nat} {v1 v2 v4 v5 v' : Value} {p1 p2 p5 : Option Addr} {c1 gt gw : Nat}
    (hC : Cm w0 w2 pb N B d wb at_ rc t0 p l w9) (hL : LogF w9 g v1 v2 p1 c1 p2 gt gw wb pb at_ rc turn n l) (hB : BrF w9 gb v4 v5 p n cap p5 pb at_ rc turn) (h0 : w0.heap.size ≤ wb) (hln : n = l.length) (hn : l.length ≤ rc) (hrc : rc ≤ 100) (hbig : B + 500 ≤ 100000000) (hx : ∀ x ∈ l, 0 ≤ x.1 ∧ x.1 < N) (hat : at_ + rc < N)
    {base : Nat} (ho : w9.ownsRow base 88 1 v' 5 [v1, v2, .func (.func 55) #[] #[.pointer (some ⟨gt, 0, none⟩), .pointer (some ⟨gw, 0, none⟩)], v4, v5]) :
    ∃ g9 cap9, v' = .slice (some ⟨g9, 0, none⟩) 5 cap9 ∧ Calls Tryz.prog 35 #[.slice (some ⟨g9, 0, none⟩) 5 cap9] w9 fun e w' => e = .returned (.int .i64 (commitR d at_ t0 turn l).2.1) ∧ IsD w0 pb N (B + 500) (commitR d at_ t0 turn l).1 w' ∧ w'.heap[wb]? = some (walO pb at_ rc (commitR d at_ t0 turn l).2.2 false) ∧ Keep2 w2 w' := by
  rcases ho.2 with ⟨_, h0'⟩ | ⟨g9, cap9, cur, rfl, _, hg, _, _, _, hx9⟩
  · omega
  · obtain ⟨_, s1, b1, s2, b2, hgt, hgw⟩ := hL
    obtain ⟨_, s4, s5, b5⟩ := hB
    refine ⟨g9, cap9, rfl, (run_any w9 [v1, v2, .func (.func 55) #[] #[.pointer (some ⟨gt, 0, none⟩), .pointer (some ⟨gw, 0, none⟩)], v4, v5]
      (fun z w' => z = (commitR d at_ t0 turn l).2.1 ∧ IsD w0 pb N (B + 500) (commitR d at_ t0 turn l).1 w' ∧ w'.heap[wb]? = some (walO pb at_ rc (commitR d at_ t0 turn l).2.2 false) ∧ Keep2 w2 w') g9 0 cap9
      (commit_runs s1 b1 s2 b2 hgt hgw hC.wal h0 s4 hC.bks s5 b5 hln hC.dsk hn hrc (by omega) hx hat fun w' hD' hK' hw' => ⟨rfl, isD_big hD' (by omega) hbig, hw', (keep_two (Keep.of_fr hC.fr)).trans hK'⟩)
      ⟨_, hg⟩ (fun i v hi => ?_) (by simp)).mono ?_⟩
    · have hlt := (List.getElem?_eq_some_iff.1 hi).1
      rw [cellAt hg, Nat.zero_add]
      have h1 := hi
      rw [← hx9, List.getElem?_take, if_pos (by simpa using hlt)] at h1
      simpa using h1
    · rintro e w' ⟨z, rfl, rfl, h⟩
      exact ⟨rfl, h⟩
end Go.Proofs.YtflapnbpaodhaaaGreatDoor.hd
