/-
  What a disk that lives has behind steps (mathematics).
-/
import Derived.Test.YtflapnbpaodhaaaGreatDoorHd5
namespace Go.Proofs.YtflapnbpaodhaaaGreatDoor.hd
set_option maxRecDepth 100000
open Go.RowKit Go.Maps ds
set_option maxRecDepth 100000

def Live (d : DS) : Prop := d.lim = -1 ∧ d.dk = false
theorem Live.not_gone {d : DS} (h : Live d) : ¬ d.gone := by
  rintro (e | e)
  · rw [h.1] at e; cases e
  · rw [h.2] at e; cases e
theorem Live.new : Live DS.new := ⟨rfl, rfl⟩
/-- Sectors written over others. -/
def wrI (f : Int → List UInt8) : List (Int × List UInt8) → Int → List UInt8
  | [] => f
  | x :: r => wrI (fun s => if s = x.1 then x.2 else f s) r
theorem wrI_not {s : Int} : ∀ (l : List (Int × List UInt8)) (f : Int → List UInt8), (∀ x ∈ l, x.1 ≠ s) → wrI f l s = f s
  | [], f, _ => rfl
  | x :: r, f, h => by
    rw [wrI, wrI_not r _ (fun y hy => h y (by simp [hy]))]
    exact if_neg (fun e => h x (by simp) e.symm)
theorem wrI_at {x : Int × List UInt8} : ∀ (l : List (Int × List UInt8)) (f : Int → List UInt8), l.Pairwise (fun a b => a.1 ≠ b.1) → x ∈ l → wrI f l x.1 = x.2
  | [], f, _, h => by cases h
  | y :: r, f, hp, h => by
    obtain ⟨h1, h2⟩ := List.pairwise_cons.1 hp
    rw [wrI]
    rcases List.mem_cons.1 h with rfl | h
    · rw [wrI_not r _ (fun z hz e => h1 z hz e.symm)]
      exact if_pos rfl
    · exact wrI_at r _ h2 h
/-- Behind a step. -/
structure Did (d : DS) (f : Int → List UInt8) (n : Int) (d' : DS) : Prop where
  live : Live d'
  img : d'.img = f
  sur : d'.sur = f
  ops : d'.ops = d.ops + n
  cl : d'.cl = true
theorem stepR_live : ∀ (l : List (Int × List UInt8)) (d : DS), Live d → (stepR d l).2 = 0 ∧ Did d (wrI d.img l) (l.length + 1) (stepR d l).1
  | [], d, h => by
    have hs : d.sync = ⟨d.img, d.img, fun x y => y = d.img x, d.ops + 1, lessOne d.lim, false, true⟩ := if_neg h.not_gone
    have he : d.err = 0 := if_neg h.not_gone
    rw [stepR, he, hs]
    exact ⟨rfl, ⟨by show lessOne d.lim = -1; rw [h.1]; rfl, rfl⟩, rfl, rfl, by simp, rfl⟩
  | x :: r, d, h => by
    have hw : d.write x.1 x.2 = ⟨fun s => if s = x.1 then x.2 else d.img s, d.sur, fun s y => d.may s y ∨ (s = x.1 ∧ y = x.2), d.ops + 1, lessOne d.lim, false, false⟩ := if_neg h.not_gone
    have hl : Live (d.write x.1 x.2) := by rw [hw]; exact ⟨by show lessOne d.lim = -1; rw [h.1]; rfl, rfl⟩
    obtain ⟨a, b⟩ := stepR_live r (d.write x.1 x.2) hl
    rw [stepR, if_neg h.not_gone]
    refine ⟨a, b.live, ?_, ?_, ?_, b.cl⟩
    · rw [b.img, hw]; rfl
    · rw [b.sur, hw]; rfl
    · rw [b.ops, hw, List.length_cons]; simp; omega
theorem bringR_live {d : DS} (h : Live d) (at_ turn : Nat) (l : List (Int × List UInt8)) : (bringR d at_ turn l).2 = 0 ∧ Did d (wrI (wrI d.img l) [((at_ : Int), hdrL turn [])]) (l.length + 3) (bringR d at_ turn l).1 := by
  obtain ⟨a, b⟩ := stepR_live l d h
  obtain ⟨a2, b2⟩ := stepR_live [((at_ : Int), hdrL turn [])] _ b.live
  unfold bringR
  rw [if_pos a]
  refine ⟨a2, b2.live, by rw [b2.img, b.img], by rw [b2.sur, b.img], ?_, b2.cl⟩
  rw [b2.ops, b.ops]
  simp
  omega
/-- What a commit leaves where. -/
def comI (f : Int → List UInt8) (at_ turn : Nat) (l : List (Int × List UInt8)) : Int → List UInt8 := wrI (wrI (wrI (wrI f (aheadF (at_ + 1) l)) [((at_ : Int), hdrL turn l)]) l) [((at_ : Int), hdrL turn [])]
theorem commitR_live {d : DS} (h : Live d) (at_ t0 turn : Nat) (l : List (Int × List UInt8)) : (commitR d at_ t0 turn l).2 = (0, turn) ∧ Did d (comI d.img at_ turn l) (2 * l.length + 6) (commitR d at_ t0 turn l).1 := by
  obtain ⟨a, b⟩ := stepR_live (aheadF (at_ + 1) l) d h
  obtain ⟨a2, b2⟩ := stepR_live [((at_ : Int), hdrL turn l)] _ b.live
  obtain ⟨a3, b3⟩ := bringR_live b2.live at_ turn l
  unfold commitR
  rw [if_pos a, if_pos a2]
  refine ⟨by rw [a3], b3.live, by rw [b3.img, b2.img, b.img]; rfl, by rw [b3.sur, b2.img, b.img]; rfl, ?_, b3.cl⟩
  show (bringR _ at_ turn l).1.ops = _
  rw [b3.ops, b2.ops, b.ops, aheadF_length]
  simp
  omega
theorem comR_live {N at_ rc : Nat} {d : DS} (h : Live d) {t0 : Nat} {l : List (Int × List UInt8)} (hr : refR ((at_ + 1 + rc : Nat) : Int) N rc l = 0) (hne : l ≠ []) : (comR N at_ rc d t0 false l).2 = (0, nextT t0, false) ∧ Did d (comI d.img at_ (nextT t0) l) (2 * l.length + 6) (comR N at_ rc d t0 false l).1 := by
  obtain ⟨a, b⟩ := commitR_live h at_ t0 (nextT t0) l
  have e : comR N at_ rc d t0 false l = ((commitR d at_ t0 (nextT t0) l).1, (commitR d at_ t0 (nextT t0) l).2.1, (commitR d at_ t0 (nextT t0) l).2.2, decide ((commitR d at_ t0 (nextT t0) l).2.1 ≠ 0)) := by
    unfold comR
    rw [if_neg (by rw [hr]; simp), if_neg hne, if_neg (by simp)]
  rw [e, a]
  exact ⟨by simp, b⟩
/-- An empty header is right, and nothing is brought home. -/
theorem openR_empty {N at_ rc : Nat} {d : DS} (h : Live d) {turn : Nat} (ht : turn < 4294967296) (hh : hdOf d at_ = hdrL turn []) : openR N at_ rc d = (d, 0) ∧ tnOf d at_ = turn := by
  have hc : cnOf d at_ = 0 := by show numAt (hdOf d at_) 8 2 = 0; rw [hh, hdrL_count (by simp)]; rfl
  have htn : tnOf d at_ = turn := by show numAt (hdOf d at_) 4 4 = turn; rw [hh, hdrL_turn ht]
  refine ⟨?_, htn⟩
  have hr : rightD N at_ rc d (hdOf d at_) := by
    refine ⟨⟨by show cnOf d at_ ≤ rc; omega, fun i hi => ?_⟩, ?_⟩
    · have : i < cnOf d at_ := hi
      omega
    · show hdrL (tnOf d at_) (logL d at_ (hdOf d at_) (cnOf d at_)) = hdOf d at_
      rw [hc, htn, hh]
      rfl
  unfold openR
  rw [if_neg (by rw [h.2]; simp), if_pos hr, if_pos hc]
/-- Of sectors with other homes each, rising, there is one order. -/
theorem sorted_one : ∀ (l m : List (Int × List UInt8)), l.Perm m → l.Pairwise (fun a b => a.1 ≤ b.1) → m.Pairwise (fun a b => a.1 < b.1) → l = m
  | [], m, hp, _, _ => by rw [List.nil_perm.1 hp]
  | y :: s, [], hp, _, _ => by have := hp.length_eq; simp at this
  | y :: s, x :: r, hp, h1, h2 => by
    obtain ⟨a1, a2⟩ := List.pairwise_cons.1 h1
    obtain ⟨b1, b2⟩ := List.pairwise_cons.1 h2
    have hy : y = x := by
      rcases List.mem_cons.1 (hp.mem_iff.1 (List.mem_cons_self : y ∈ y :: s)) with e | hy
      · exact e
      · rcases List.mem_cons.1 (hp.mem_iff.2 (List.mem_cons_self : x ∈ x :: r)) with e | hx
        · exact e.symm
        · have := b1 y hy
          have := a1 x hx
          omega
    subst hy
    rw [sorted_one s r ((List.perm_cons y).1 hp) a2 b2]
end Go.Proofs.YtflapnbpaodhaaaGreatDoor.hd
