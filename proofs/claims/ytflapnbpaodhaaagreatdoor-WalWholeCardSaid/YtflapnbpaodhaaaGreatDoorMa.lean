/-
  What crashes may leave of a commit and of an opening, whenever the power goes (mathematics).
-/
import Derived.Test.YtflapnbpaodhaaaGreatDoorHd8
namespace Go.Proofs.YtflapnbpaodhaaaGreatDoor.hd
set_option maxRecDepth 100000
open Go.RowKit Go.Maps ds
set_option maxRecDepth 100000

/-- A crash may leave nothing but the latest. -/
def Sure (d : DS) : Prop := ∀ s y, d.may s y → y = d.img s
/-- A crash may leave these. -/
def Can (N : Nat) (d : DS) (f : Int → List UInt8) : Prop := ∀ s, 0 ≤ s → s < (N : Int) → d.may s (f s)

theorem stepR_may {P : Int → List UInt8 → Prop} : ∀ (m : List (Int × List UInt8)) (d : DS), (∀ s y, d.may s y → P s y) → (∀ x ∈ m, P x.1 x.2) →
    ((stepR d m).2 = 0 ∧ Sure (stepR d m).1 ∧ (stepR d m).1.img = wrI d.img m ∧ (stepR d m).1.dk = false) ∨ ((stepR d m).2 = 10 ∧ ∀ s y, (stepR d m).1.may s y → P s y)
  | [], d, h1, _ => by
    by_cases hg : d.gone
    · have hs : d.sync = ⟨d.img, d.sur, d.may, d.ops, d.lim, true, d.cl⟩ := if_pos hg
      rw [stepR, hs]
      exact Or.inr ⟨err_gone hg, h1⟩
    · have hs : d.sync = ⟨d.img, d.img, fun x y => y = d.img x, d.ops + 1, lessOne d.lim, false, true⟩ := if_neg hg
      rw [stepR, hs]
      exact Or.inl ⟨err_not hg, fun _ _ h => h, rfl, rfl⟩
  | x :: r, d, h1, h2 => by
    by_cases hg : d.gone
    · have hw : d.write x.1 x.2 = ⟨d.img, d.sur, d.may, d.ops, d.lim, true, d.cl⟩ := if_pos hg
      rw [stepR, if_pos hg, hw]
      exact Or.inr ⟨rfl, h1⟩
    · have hw : d.write x.1 x.2 = ⟨fun s => if s = x.1 then x.2 else d.img s, d.sur, fun s y => d.may s y ∨ (s = x.1 ∧ y = x.2), d.ops + 1, lessOne d.lim, false, false⟩ := if_neg hg
      have hr := stepR_may r (d.write x.1 x.2) (by
        rw [hw]
        rintro s y (h | ⟨rfl, rfl⟩)
        · exact h1 _ _ h
        · exact h2 x (by simp)) (fun y hy => h2 y (by simp [hy]))
      rw [stepR, if_neg hg]
      rcases hr with ⟨a, b, c, e⟩ | h
      · exact Or.inl ⟨a, b, by rw [c, hw]; rfl, e⟩
      · exact Or.inr h

theorem aheadF_get : ∀ (l : List (Int × List UInt8)) (a i : Nat), (aheadF a l)[i]? = (l[i]?).map fun x => (((a + i : Nat) : Int), x.2)
  | [], a, i => by simp [aheadF]
  | x :: r, a, 0 => by simp [aheadF]
  | x :: r, a, i + 1 => by
    rw [aheadF, List.getElem?_cons_succ, List.getElem?_cons_succ, aheadF_get r (a + 1) i, show a + 1 + i = a + (i + 1) by omega]
theorem aheadF_ne : ∀ (l : List (Int × List UInt8)) (a : Nat), (aheadF a l).Pairwise (fun x y => x.1 ≠ y.1)
  | [], a => List.Pairwise.nil
  | x :: r, a => List.pairwise_cons.2 ⟨fun y hy e => by have := (aheadF_lt r (a + 1) y hy).1; rw [← e] at this; simp at this; omega, aheadF_ne r (a + 1)⟩
theorem wrI_ahead {l : List (Int × List UInt8)} {i : Nat} {x : Int × List UInt8} (f : Int → List UInt8) (a : Nat) (h : l[i]? = some x) : wrI f (aheadF a l) ((a + i : Nat) : Int) = x.2 := by
  have hm : (((a + i : Nat) : Int), x.2) ∈ aheadF a l := List.mem_of_getElem? (i := i) (by rw [aheadF_get, h]; rfl)
  exact wrI_at (aheadF a l) f (aheadF_ne l a) hm

/-- What is committed: sectors of the home of a log of five at sector 2, rising. -/
structure Task (N : Nat) (l : List (Int × List UInt8)) (t0 turn : Nat) : Prop where
  ne : l ≠ []
  len : l.length ≤ 5
  home : ∀ x ∈ l, 8 ≤ x.1 ∧ x.1 < (N : Int)
  rise : l.Pairwise (fun a b => a.1 < b.1)
  n9 : 9 ≤ N
  nmax : N ≤ 4096
  t0 : t0 < 4294967296
  turn : turn < 4294967296

abbrev at2 : Int := ((2 : Nat) : Int)
theorem at2_eq : at2 = 2 := rfl
theorem wrI_one (f : Int → List UInt8) (a : Int) (v : List UInt8) (s : Int) : wrI f [(a, v)] s = if s = a then v else f s := rfl
/-- As it was. -/
def Old (N : Nat) (f0 : Int → List UInt8) (t0 : Nat) (f : Int → List UInt8) : Prop := f at2 = hdrL t0 [] ∧ ∀ s, 8 ≤ s → s < (N : Int) → f s = f0 s
/-- It is logged. -/
def Lgd (N : Nat) (f0 : Int → List UInt8) (turn : Nat) (l : List (Int × List UInt8)) (f : Int → List UInt8) : Prop :=
  f at2 = hdrL turn l ∧ (∀ i x, l[i]? = some x → f ((3 + i : Nat) : Int) = x.2) ∧ ∀ s, 8 ≤ s → s < (N : Int) → (∀ x ∈ l, x.1 ≠ s) → f s = f0 s
/-- It was brought home, and is forgotten. -/
def Brt (N : Nat) (f0 : Int → List UInt8) (turn : Nat) (l : List (Int × List UInt8)) (f : Int → List UInt8) : Prop := f at2 = hdrL turn [] ∧ ∀ s, 8 ≤ s → s < (N : Int) → f s = wrI f0 l s

section
variable {N t0 turn : Nat} {l : List (Int × List UInt8)} {f0 : Int → List UInt8} {d : DS}
theorem Task.dist (T : Task N l t0 turn) : l.Pairwise (fun a b => a.1 ≠ b.1) := T.rise.imp (fun h => by omega)
theorem wrI_home (T : Task N l t0 turn) {g : Int → List UInt8} (h : ∀ s, 8 ≤ s → s < (N : Int) → (∀ x ∈ l, x.1 ≠ s) → g s = f0 s) {s : Int} (h0 : 8 ≤ s) (h1 : s < N) : wrI g l s = wrI f0 l s := by
  by_cases hx : ∀ x ∈ l, x.1 ≠ s
  · rw [wrI_not l g hx, wrI_not l f0 hx, h s h0 h1 hx]
  · obtain ⟨x, hx⟩ := Classical.not_forall.1 hx
    obtain ⟨hm, he⟩ := Classical.not_imp.1 hx
    obtain rfl := Classical.not_not.1 he
    rw [wrI_at l g T.dist hm, wrI_at l f0 T.dist hm]
theorem bring_from (T : Task N l t0 turn) (hs : Sure d) (hl : Lgd N f0 turn l d.img) :
    ((bringR d 2 turn l).2 = 0 ∧ Sure (bringR d 2 turn l).1 ∧ Brt N f0 turn l (bringR d 2 turn l).1.img ∧ (bringR d 2 turn l).1.dk = false) ∨
      ((bringR d 2 turn l).2 = 10 ∧ ∀ f, Can N (bringR d 2 turn l).1 f → Lgd N f0 turn l f ∨ Brt N f0 turn l f) := by
  have hn9 := T.n9
  have h2 := at2_eq
  have hlen := T.len
  rcases stepR_may (P := fun s y => y = d.img s ∨ ∃ x ∈ l, x.1 = s) l d (fun s y h => Or.inl (hs s y h)) (fun x hx => Or.inr ⟨x, hx, rfl⟩) with ⟨a, b, c, e⟩ | ⟨a, b⟩
  · have hbr : bringR d 2 turn l = stepR (stepR d l).1 [(at2, hdrL turn [])] := if_pos a
    rw [hbr]
    obtain ⟨d1, hd1⟩ : ∃ d1, d1 = (stepR d l).1 := ⟨_, rfl⟩
    rw [← hd1] at b c e ⊢
    have low : ∀ s, s < 8 → d1.img s = d.img s := fun s h => by rw [c]; exact wrI_not l _ (fun x hx e => by have := T.home x hx; omega)
    have high : ∀ s, 8 ≤ s → s < (N : Int) → d1.img s = wrI f0 l s := fun s h0 h1 => by rw [c]; exact wrI_home T hl.2.2 h0 h1
    rcases stepR_may (P := fun s y => y = d1.img s ∨ (s = at2 ∧ y = hdrL turn [])) [(at2, hdrL turn [])] d1 (fun s y h => Or.inl (b s y h)) (fun x hx => by obtain rfl := List.mem_singleton.1 hx; exact Or.inr ⟨rfl, rfl⟩) with ⟨a2, b2, c2, e2⟩ | ⟨a2, b2⟩
    · refine Or.inl ⟨a2, b2, ⟨?_, fun s h0 h1 => ?_⟩, e2⟩
      · rw [c2, wrI_one, if_pos rfl]
      · rw [c2, wrI_one, if_neg (by omega), high s h0 h1]
    · refine Or.inr ⟨a2, fun f hf => ?_⟩
      have hf' : ∀ s, 0 ≤ s → s < (N : Int) → s ≠ at2 → f s = d1.img s := fun s h0 h1 h2 => by
        rcases b2 s _ (hf s h0 h1) with h | ⟨h, _⟩
        · exact h
        · exact absurd h h2
      rcases b2 at2 _ (hf at2 (by omega) (by omega)) with h | ⟨_, h⟩
      · refine Or.inl ⟨by rw [h, low _ (by omega), hl.1], fun i x hx => ?_, fun s h0 h1 h2 => ?_⟩
        · have hi := (List.getElem?_eq_some_iff.1 hx).1
          rw [hf' _ (by omega) (by omega) (by omega), low _ (by omega)]
          exact hl.2.1 i x hx
        · rw [hf' s (by omega) h1 (by omega), high s h0 h1]
          exact wrI_not l f0 h2
      · exact Or.inr ⟨h, fun s h0 h1 => by rw [hf' s (by omega) h1 (by omega), high s h0 h1]⟩
  · have hbr : bringR d 2 turn l = stepR d l := if_neg (by rw [a]; simp)
    rw [hbr]
    refine Or.inr ⟨a, fun f hf => Or.inl ?_⟩
    have hf' : ∀ s, 0 ≤ s → s < (N : Int) → (∀ x ∈ l, x.1 ≠ s) → f s = d.img s := fun s h0 h1 h2 => by
      rcases b s _ (hf s h0 h1) with h | ⟨x, hx, h⟩
      · exact h
      · exact absurd h (h2 x hx)
    refine ⟨by rw [hf' at2 (by omega) (by omega) (fun x hx e => by have := T.home x hx; omega), hl.1], fun i x hx => ?_, fun s h0 h1 h2 => by rw [hf' s (by omega) h1 h2]; exact hl.2.2 s h0 h1 h2⟩
    have hi := (List.getElem?_eq_some_iff.1 hx).1
    rw [hf' _ (by omega) (by omega) (fun y hy e => by have := T.home y hy; omega)]
    exact hl.2.1 i x hx
theorem commit_from (T : Task N l t0 turn) (hs : Sure d) (ho : Old N f0 t0 d.img) :
    ((commitR d 2 t0 turn l).2.1 = 0 ∧ ∀ f, Can N (commitR d 2 t0 turn l).1 f → Lgd N f0 turn l f ∨ Brt N f0 turn l f) ∨
      ((commitR d 2 t0 turn l).2.1 = 10 ∧ ∀ f, Can N (commitR d 2 t0 turn l).1 f → Lgd N f0 turn l f ∨ Brt N f0 turn l f ∨ Old N f0 t0 f) := by
  have hn9 := T.n9
  have h2 := at2_eq
  have hlen := T.len
  have hin : ∀ x ∈ aheadF (2 + 1) l, 3 ≤ x.1 ∧ x.1 < 8 := fun x hx => by have := aheadF_lt l (2 + 1) x hx; omega
  rcases stepR_may (P := fun s y => y = d.img s ∨ (3 ≤ s ∧ s < 8)) (aheadF (2 + 1) l) d (fun s y h => Or.inl (hs s y h)) (fun x hx => Or.inr (hin x hx)) with ⟨a, b, c, e⟩ | ⟨a, b⟩
  · obtain ⟨d1, hd1⟩ : ∃ d1, d1 = (stepR d (aheadF (2 + 1) l)).1 := ⟨_, rfl⟩
    have rest : ∀ s, ¬ (3 ≤ s ∧ s < 8) → d1.img s = d.img s := fun s h => by rw [hd1, c]; exact wrI_not _ _ (fun x hx e => h (by have := hin x hx; omega))
    have dat : ∀ i x, l[i]? = some x → d1.img ((3 + i : Nat) : Int) = x.2 := fun i x hx => by rw [hd1, c]; exact wrI_ahead _ (2 + 1) hx
    rw [← hd1] at b e
    rcases stepR_may (P := fun s y => y = d1.img s ∨ (s = at2 ∧ y = hdrL turn l)) [(at2, hdrL turn l)] d1 (fun s y h => Or.inl (b s y h)) (fun x hx => by obtain rfl := List.mem_singleton.1 hx; exact Or.inr ⟨rfl, rfl⟩) with ⟨a2, b2, c2, e2⟩ | ⟨a2, b2⟩
    · have hc : commitR d 2 t0 turn l = ((bringR (stepR d1 [(at2, hdrL turn l)]).1 2 turn l).1, (bringR (stepR d1 [(at2, hdrL turn l)]).1 2 turn l).2, turn) := by
        unfold commitR
        rw [if_pos a, ← hd1, if_pos a2]
      rw [hc]
      have hL : Lgd N f0 turn l (stepR d1 [(at2, hdrL turn l)]).1.img := by
        rw [c2]
        refine ⟨by rw [wrI_one, if_pos rfl], fun i x hx => ?_, fun s h0 h1 _ => ?_⟩
        · rw [wrI_one, if_neg (by omega), dat i x hx]
        · rw [wrI_one, if_neg (by omega), rest s (by omega), ho.2 s h0 h1]
      rcases bring_from T b2 hL with ⟨a3, b3, c3, _⟩ | ⟨a3, b3⟩
      · refine Or.inl ⟨a3, fun f hf => Or.inr ⟨?_, fun s h0 h1 => ?_⟩⟩
        · rw [b3 at2 _ (hf at2 (by omega) (by omega)), c3.1]
        · rw [b3 s _ (hf s (by omega) h1), c3.2 s h0 h1]
      · exact Or.inr ⟨a3, fun f hf => by
          rcases b3 f hf with h | h
          · exact Or.inl h
          · exact Or.inr (Or.inl h)⟩
    · have hc : commitR d 2 t0 turn l = ((stepR d1 [(at2, hdrL turn l)]).1, (stepR d1 [(at2, hdrL turn l)]).2, t0) := by
        unfold commitR
        rw [if_pos a, ← hd1, if_neg (by rw [a2]; simp)]
      rw [hc]
      refine Or.inr ⟨a2, fun f hf => ?_⟩
      have hf' : ∀ s, 0 ≤ s → s < (N : Int) → s ≠ at2 → f s = d1.img s := fun s h0 h1 h2 => by
        rcases b2 s _ (hf s h0 h1) with h | ⟨h, _⟩
        · exact h
        · exact absurd h h2
      have home : ∀ s, 8 ≤ s → s < (N : Int) → f s = f0 s := fun s h0 h1 => by rw [hf' s (by omega) h1 (by omega), rest s (by omega), ho.2 s h0 h1]
      rcases b2 at2 _ (hf at2 (by omega) (by omega)) with h | ⟨_, h⟩
      · exact Or.inr (Or.inr ⟨by rw [h, rest _ (by omega), ho.1], home⟩)
      · refine Or.inl ⟨h, fun i x hx => ?_, fun s h0 h1 _ => home s h0 h1⟩
        have hi := (List.getElem?_eq_some_iff.1 hx).1
        rw [hf' _ (by omega) (by omega) (by omega)]
        exact dat i x hx
  · have hc : commitR d 2 t0 turn l = ((stepR d (aheadF (2 + 1) l)).1, (stepR d (aheadF (2 + 1) l)).2, t0) := by
      unfold commitR
      rw [if_neg (by rw [a]; simp)]
    rw [hc]
    refine Or.inr ⟨a, fun f hf => Or.inr (Or.inr ⟨?_, fun s h0 h1 => ?_⟩)⟩
    · rcases b at2 _ (hf at2 (by omega) (by omega)) with h | h
      · rw [h, ho.1]
      · omega
    · rcases b s _ (hf s (by omega) h1) with h | h
      · rw [h, ho.2 s h0 h1]
      · omega
/-- What is logged is read as it was written. -/
theorem lgd_right (T : Task N l t0 turn) (hl : Lgd N f0 turn l d.img) : cnOf d 2 = l.length ∧ tnOf d 2 = turn ∧ lgOf d 2 = l ∧ rightD N 2 5 d (hdOf d 2) := by
  have hlen := T.len
  have hn := T.nmax
  have hh : hdOf d 2 = hdrL turn l := hl.1
  have hc : cnOf d 2 = l.length := by show numAt (hdOf d 2) 8 2 = _; rw [hh, hdrL_count (by omega)]
  have ht : tnOf d 2 = turn := by show numAt (hdOf d 2) 4 4 = _; rw [hh, hdrL_turn T.turn]
  have hm : ∀ i x, l[i]? = some x → (homeN (hdOf d 2) i : Int) = x.1 := fun i x hx => by
    have := T.home x (List.mem_of_getElem? hx)
    show (numAt (hdOf d 2) (10 + i * 2) 2 : Int) = x.1
    rw [hh]
    exact hdrL_home (by omega) hx (by omega) (by omega)
  have hL : logL d 2 (hdOf d 2) l.length = l := by
    refine List.ext_getElem? fun i => ?_
    unfold logL
    rw [List.getElem?_map]
    by_cases hi : i < l.length
    · rw [List.getElem?_range hi]
      obtain ⟨x, hx⟩ : ∃ x, l[i]? = some x := ⟨_, List.getElem?_eq_getElem hi⟩
      rw [hx]
      show some (logAt d 2 (hdOf d 2) i) = some x
      unfold logAt
      rw [hm i x hx, show ((2 + 1 + i : Nat) : Int) = ((3 + i : Nat) : Int) by omega, hl.2.1 i x hx]
    · rw [List.getElem?_eq_none (by simp; omega), List.getElem?_eq_none (by omega)]
      rfl
  refine ⟨hc, ht, by show logL d 2 (hdOf d 2) (cnOf d 2) = l; rw [hc, hL], ⟨⟨by show cnOf d 2 ≤ 5; omega, fun i hi => ?_⟩, ?_⟩⟩
  · have hi : i < l.length := by rw [← hc]; exact hi
    obtain ⟨x, hx⟩ : ∃ x, l[i]? = some x := ⟨_, List.getElem?_eq_getElem hi⟩
    have h1 := hm i x hx
    have h2 := T.home x (List.mem_of_getElem? hx)
    refine ⟨by omega, by omega, fun h0 => ?_⟩
    obtain ⟨y, hy⟩ : ∃ y, l[i - 1]? = some y := ⟨_, List.getElem?_eq_getElem (by omega)⟩
    have h3 := hm (i - 1) y hy
    obtain ⟨p1, p2⟩ := List.getElem?_eq_some_iff.1 hx
    obtain ⟨q1, q2⟩ := List.getElem?_eq_some_iff.1 hy
    have h4 := List.pairwise_iff_getElem.1 T.rise (i - 1) i q1 p1 (by omega)
    rw [p2, q2] at h4
    omega
  · show hdrL (tnOf d 2) (logL d 2 (hdOf d 2) (cnOf d 2)) = hdOf d 2
    rw [hc, ht, hL, hh]
theorem openR_lgd (T : Task N l t0 turn) (hk : d.dk = false) (hl : Lgd N f0 turn l d.img) : openR N 2 5 d = bringR d 2 turn l ∧ tnOf d 2 = turn := by
  obtain ⟨a, b, c, e⟩ := lgd_right T hl
  refine ⟨?_, b⟩
  unfold openR
  rw [if_neg (by rw [hk]; simp), if_pos e, if_neg (by rw [a]; intro h; exact T.ne (List.eq_nil_of_length_eq_zero h)), b, c]
theorem openR_void {at_ rc : Nat} (hk : d.dk = false) {turn : Nat} (ht : turn < 4294967296) (hh : d.img (at_ : Int) = hdrL turn []) : openR N at_ rc d = (d, 0) ∧ tnOf d at_ = turn ∧ cnOf d at_ = 0 ∧ rightD N at_ rc d (hdOf d at_) := by
  have hh : hdOf d at_ = hdrL turn [] := hh
  have hc : cnOf d at_ = 0 := by show numAt (hdOf d at_) 8 2 = 0; rw [hh, hdrL_count (by simp)]; rfl
  have htn : tnOf d at_ = turn := by show numAt (hdOf d at_) 4 4 = turn; rw [hh, hdrL_turn ht]
  have hr : rightD N at_ rc d (hdOf d at_) := by
    refine ⟨⟨by show cnOf d at_ ≤ rc; omega, fun i hi => ?_⟩, ?_⟩
    · have : i < cnOf d at_ := hi
      omega
    · show hdrL (tnOf d at_) (logL d at_ (hdOf d at_) (cnOf d at_)) = hdOf d at_
      rw [hc, htn, hh]
      rfl
  refine ⟨?_, htn, hc, hr⟩
  unfold openR
  rw [if_neg (by rw [hk]; simp), if_pos hr, if_pos hc]
end

/-- C holds of all that crashes may leave; E of what is there as soon as the log is opened. -/
structure Rec (N : Nat) (C E : (Int → List UInt8) → Prop) : Prop where
  goes : ∀ d : DS, Sure d → d.dk = false → C d.img → ((openR N 2 5 d).2 = 0 ∧ Sure (openR N 2 5 d).1 ∧ E (openR N 2 5 d).1.img ∧ (openR N 2 5 d).1.dk = false ∧ tnOf (openR N 2 5 d).1 2 = tnOf d 2) ∨ ((openR N 2 5 d).2 = 10 ∧ ∀ f, Can N (openR N 2 5 d).1 f → C f)
  live : ∀ d : DS, Live d → Sure d → C d.img → (openR N 2 5 d).2 = 0
  last : ∀ f, E f → C f ∧ ∃ t, t < 4294967296 ∧ f at2 = hdrL t []
  same : ∀ f g, (∀ s, 0 ≤ s → s < (N : Int) → f s = g s) → E f → E g
section
variable {N t0 turn : Nat} {l : List (Int × List UInt8)} {f0 : Int → List UInt8}
theorem rec_of (T : Task N l t0 turn) (done : Prop) : Rec N (fun f => Lgd N f0 turn l f ∨ Brt N f0 turn l f ∨ (¬ done ∧ Old N f0 t0 f)) (fun f => Brt N f0 turn l f ∨ (¬ done ∧ Old N f0 t0 f)) := by
  have hn9 := T.n9
  have h2 := at2_eq
  have void : ∀ d : DS, d.dk = false → Brt N f0 turn l d.img ∨ (¬ done ∧ Old N f0 t0 d.img) → openR N 2 5 d = (d, 0) := fun d hk h => by
    rcases h with h | ⟨_, h⟩
    · exact (openR_void hk T.turn h.1).1
    · exact (openR_void hk T.t0 h.1).1
  refine ⟨fun d hs hk h => ?_, fun d hv hs h => ?_, fun f h => ⟨Or.inr h, ?_⟩, fun f g he h => ?_⟩
  · rcases h with h | h
    · obtain ⟨ho, ht⟩ := openR_lgd T hk h
      rw [ho]
      rcases bring_from T hs h with ⟨a, b, c, e⟩ | ⟨a, b⟩
      · refine Or.inl ⟨a, b, Or.inl c, e, ?_⟩
        rw [ht]
        exact (openR_void (N := N) (rc := 5) e T.turn c.1).2.1
      · exact Or.inr ⟨a, fun f hf => by
          rcases b f hf with h | h
          · exact Or.inl h
          · exact Or.inr (Or.inl h)⟩
    · rw [void d hk h]
      exact Or.inl ⟨rfl, hs, h, hk, rfl⟩
  · rcases h with h | h
    · rw [(openR_lgd T hv.2 h).1]
      exact (bringR_live hv 2 turn l).1
    · rw [void d hv.2 h]
  · rcases h with h | ⟨_, h⟩
    · exact ⟨turn, T.turn, h.1⟩
    · exact ⟨t0, T.t0, h.1⟩
  · rcases h with h | ⟨hd, h⟩
    · exact Or.inl ⟨by rw [← he at2 (by omega) (by omega)]; exact h.1, fun s h0 h1 => by rw [← he s (by omega) h1]; exact h.2 s h0 h1⟩
    · exact Or.inr ⟨hd, by rw [← he at2 (by omega) (by omega)]; exact h.1, fun s h0 h1 => by rw [← he s (by omega) h1]; exact h.2 s h0 h1⟩
theorem rec_none (hn9 : 9 ≤ N) (h0 : t0 < 4294967296) : Rec N (Old N f0 t0) (Old N f0 t0) :=
  have h2 := at2_eq
  ⟨fun d hs hk h => by rw [(openR_void hk h0 h.1).1]; exact Or.inl ⟨rfl, hs, h, hk, rfl⟩, fun d hv hs h => by rw [(openR_void hv.2 h0 h.1).1], fun f h => ⟨h, t0, h0, h.1⟩,
    fun f g he h => ⟨by rw [← he at2 (by omega) (by omega)]; exact h.1, fun s h0 h1 => by rw [← he s (by omega) h1]; exact h.2 s h0 h1⟩⟩
end

/-- What a commit of the statements leaves, whenever the power goes in it. -/
theorem com_rec {N K : Nat} {xs : List Int} {c : UInt8} {d : DS} (hs : Sure d) (hh : d.img at2 = hdrL 0 []) (h9 : 9 ≤ N) (hN : N ≤ 4096) (hX : AtX N K xs) (hK : K ≤ 5) {l' : List (Int × List UInt8)} (hp : l'.Perm (blF c xs)) (hr' : l'.Pairwise (fun a b => a.1 ≤ b.1)) :
    ∃ C E, Rec N C E ∧ (∀ f, Can N (comR N 2 5 d 0 false l').1 f → C f) ∧ (∀ f, E f → (∀ x ∈ blF c xs, f x.1 = x.2) ∨ ((comR N 2 5 d 0 false l').2.1 ≠ 0 ∧ ∀ s, 8 ≤ s → s < (N : Int) → f s = d.img s)) ∧ ((comR N 2 5 d 0 false l').2.1 = 0 ∨ (comR N 2 5 d 0 false l').2.1 = 10) := by
  have h2 := at2_eq
  have hm : (l'.map (·.1)).Perm xs := by have := hp.map (·.1); rwa [blF_map] at this
  have hne : l'.Pairwise (fun a b => a.1 ≠ b.1) := by
    have h : (l'.map (·.1)).Nodup := hm.nodup_iff.2 hX.2.1
    exact List.pairwise_map.1 h
  have hlt : l'.Pairwise (fun a b => a.1 < b.1) := (hr'.and hne).imp (fun h => by omega)
  have hin : ∀ x ∈ l', x.1 ∈ xs := fun x hx => blF_mem (hp.mem_iff.1 hx)
  have hlen : l'.length = K := by rw [hp.length_eq, blF_length, hX.1]
  have hr : refR ((2 + 1 + 5 : Nat) : Int) N 5 l' = 0 := by
    unfold refR
    rw [badF_ok l' none (fun x hx => by have := hX.2.2 _ (hin x hx); omega) hlt (fun a e => by cases e), if_neg (by simp), if_neg (by omega)]
  have ho : Old N d.img 0 d.img := ⟨hh, fun _ _ _ => rfl⟩
  by_cases he : l' = []
  · subst he
    have hb : blF c xs = [] := (List.nil_perm.1 hp)
    have e : comR N 2 5 d 0 false [] = (d, 0, 0, false) := by unfold comR; rw [if_neg (by rw [hr]; simp), if_pos rfl]
    rw [e, hb]
    refine ⟨_, _, rec_none (f0 := d.img) h9 (by omega : (0 : Nat) < 4294967296), fun f hf => ⟨?_, fun s h0 h1 => ?_⟩, fun f _ => Or.inl (fun x hx => by cases hx), Or.inl rfl⟩
    · rw [hs at2 _ (hf at2 (by omega) (by omega)), hh]
    · exact hs s _ (hf s (by omega) h1)
  · have T : Task N l' 0 (nextT 0) := ⟨he, by omega, fun x hx => hX.2.2 _ (hin x hx), hlt, h9, hN, by omega, by decide⟩
    have e : comR N 2 5 d 0 false l' = ((commitR d 2 0 (nextT 0) l').1, (commitR d 2 0 (nextT 0) l').2.1, (commitR d 2 0 (nextT 0) l').2.2, decide ((commitR d 2 0 (nextT 0) l').2.1 ≠ 0)) := by
      unfold comR
      rw [if_neg (by rw [hr]; simp), if_neg he, if_neg (by simp)]
    rw [e]
    have hw : ∀ f, Brt N d.img (nextT 0) l' f → ∀ x ∈ blF c xs, f x.1 = x.2 := fun f hf x hx => by
      have hx' := hp.mem_iff.2 hx
      have h8 := T.home x hx'
      rw [hf.2 x.1 h8.1 h8.2]
      exact wrI_at l' _ hne hx'
    rcases commit_from T hs ho with ⟨a, b⟩ | ⟨a, b⟩
    · refine ⟨_, _, rec_of (f0 := d.img) T True, fun f hf => ?_, fun f hf => ?_, Or.inl a⟩
      · rcases b f hf with h | h
        · exact Or.inl h
        · exact Or.inr (Or.inl h)
      · rcases hf with h | ⟨h, _⟩
        · exact Or.inl (hw f h)
        · exact absurd trivial h
    · refine ⟨_, _, rec_of (f0 := d.img) T False, fun f hf => ?_, fun f hf => ?_, Or.inr a⟩
      · rcases b f hf with h | h | h
        · exact Or.inl h
        · exact Or.inr (Or.inl h)
        · exact Or.inr (Or.inr ⟨id, h⟩)
      · rcases hf with h | ⟨_, h⟩
        · exact Or.inl (hw f h)
        · exact Or.inr ⟨by show (commitR d 2 0 (nextT 0) l').2.1 ≠ 0; rw [a]; simp, h.2⟩
end Go.Proofs.YtflapnbpaodhaaaGreatDoor.hd
