/-
  The program's writer: its cells; its small methods.
-/
import Derived.Test.YtnibbopdjeagoaaFlL
import Derived.Maps.AppendAt
namespace Go.Proofs.Ytnibbopdjeagoaa.fl
set_option maxRecDepth 100000
open Go.RowKit Go.Maps
set_option maxRecDepth 100000

/-- The program's writer that stands at p, of bytes B: its block g, its bytes' row A; both, and no other, lie in S. -/
structure WrM (w : World) (g : Nat) (A : Option Addr) (cap : Nat) (p : Nat) (B : List UInt8) (S : Nat → Prop) : Prop where
  blk : w.heap[g]? = some (.cells #[.int .i64 (p : Int), .bool true, .slice A B.length cap] 84 (0, 0))
  own : S g
  row : Own w 0 (.slice A B.length cap) B
  off : ∀ n c, (Value.slice A n c).ownBlock ≠ some g
  sub : ∀ n c q, (Value.slice A n c).ownBlock = some q → S q
  low : ∀ i, S i → i < w.heap.size
def PV : VP := fun w a L S => ∃ g A cap, a = ⟨g, 0, none⟩ ∧ WrM w g A cap L.length (packI L) S ∧ AllBit L
theorem blk_any {A : Option Addr} {n c n' c' : Nat} : (Value.slice A n c).ownBlock = (Value.slice A n' c').ownBlock := by cases A <;> rfl
theorem own_keep {w w' : World} {B0 : Nat} {v : Value} {l : List UInt8} (h : Own w B0 v l) (hk : ∀ q, v.ownBlock = some q → w'.heap[q]? = w.heap[q]?) : Own w' B0 v l := by
  obtain ⟨h1, h2⟩ := h
  refine ⟨h1, ?_⟩
  rcases h2 with h2 | ⟨g, cap, cur, rfl, hg, hh, r⟩
  · exact Or.inl h2
  · exact Or.inr ⟨g, cap, cur, rfl, hg, (hk g rfl).trans hh, r⟩
section
variable {w w' : World} {g cap p : Nat} {A : Option Addr} {B : List UInt8} {S S' : Nat → Prop}
theorem WrM.keep (h : WrM w g A cap p B S) (hF : Fr S' w w') (hS : ∀ i, S i → ¬ S' i) : WrM w' g A cap p B S :=
  ⟨(hF.block g (h.low g h.own) (hS g h.own)).trans h.blk, h.own, own_keep h.row (fun q hq => hF.block q (h.low q (h.sub _ _ q hq)) (hS q (h.sub _ _ q hq))), h.off, h.sub, fun i hi => Nat.lt_of_lt_of_le (h.low i hi) hF.size⟩
theorem WrM.still (h : WrM w g A cap p B S) (hF : Fr (fun _ => False) w w') : WrM w' g A cap p B S := h.keep hF (fun _ _ e => e)
theorem WrM.c0 (h : WrM w g A cap p B S) : w.cell? ⟨g, 0, none⟩ = some (.int .i64 (p : Int)) := (cellAt h.blk 0).trans rfl
theorem WrM.c1 (h : WrM w g A cap p B S) : w.cell? ⟨g, 1, none⟩ = some (.bool true) := (cellAt h.blk 1).trans rfl
theorem WrM.c2 (h : WrM w g A cap p B S) : w.cell? ⟨g, 2, none⟩ = some (.slice A B.length cap) := (cellAt h.blk 2).trans rfl
theorem WrM.f0 (h : WrM w g A cap p B S) : w.frozen? ⟨g, 0, none⟩ = false := freeAt h.blk 0
theorem WrM.f2 (h : WrM w g A cap p B S) : w.frozen? ⟨g, 2, none⟩ = false := freeAt h.blk 2
/-- It stands elsewhere. -/
theorem WrM.move (h : WrM w g A cap p B S) (q : Nat) : WrM (w.setCell ⟨g, 0, none⟩ (.int .i64 (q : Int))) g A cap q B S ∧ Fr S w (w.setCell ⟨g, 0, none⟩ (.int .i64 (q : Int))) :=
  ⟨⟨by rw [heap_setCell_same _ _ _ _ _ _ h.blk]; rfl, h.own, own_keep h.row (fun k hk => Below.heap_setCell _ _ _ _ (fun e => h.off _ _ (hk.trans (congrArg some e)))), h.off, h.sub, fun i hi => by
    have := h.low i hi
    simpa [World.setCell] using this⟩, (Fr.refl S w).setCell (p := ⟨g, 0, none⟩) (Or.inl h.own) _⟩
/-- A byte of its bytes. -/
theorem WrM.at_ (h : WrM w g A cap p B S) {k : Nat} (hk : k < B.length) : ∃ q, A = some ⟨q, 0, none⟩ ∧ q ≠ g ∧ w.cell? ⟨q, k, none⟩ = some (.int .u8 (B[k].toNat : Int)) ∧ w.frozen? ⟨q, k, none⟩ = false ∧
    ∀ c : UInt8, WrM (w.setCell ⟨q, k, none⟩ (.int .u8 (c.toNat : Int))) g A cap p (B.set k c) S ∧ Fr S w (w.setCell ⟨q, k, none⟩ (.int .u8 (c.toNat : Int))) := by
  obtain ⟨q, rfl, _, hq, hc, hf, hs⟩ := h.row.at_ hk
  have hne : q ≠ g := fun e => h.off 0 0 (by subst e; rfl)
  refine ⟨q, rfl, hne, hc, hf, fun c => ⟨⟨?_, h.own, hs c, h.off, h.sub, fun i hi => ?_⟩, (Fr.refl S w).setCell (p := ⟨q, k, none⟩) (Or.inl (h.sub 0 0 q rfl)) _⟩⟩
  · rw [Below.heap_setCell _ _ _ _ (fun e => hne e.symm), h.blk, List.length_set]
  · have := h.low i hi
    simpa [World.setCell] using this
/-- Its bytes have grown. -/
theorem WrM.grow (h : WrM w g A cap p B S) {w1 : World} {v : Value} {n m : Nat} {B' : List UInt8} {xs : List Value} (hn : n = B'.length) (hx : xs = bs B') (hown : w1.ownsRow 0 5 1 v n xs) (hg : w.grownBy w1 (Value.slice A m cap).ownBlock)
    (hat : v.ownBlock = (Value.slice A m cap).ownBlock ∨ v.ownBlock = some w.heap.size) : ∃ A' cap', v = .slice A' n cap' ∧ WrM (w1.setCell ⟨g, 2, none⟩ v) g A' cap' p B' (fun i => S i ∨ (w.heap.size ≤ i ∧ i < w1.heap.size)) ∧ Fr S w (w1.setCell ⟨g, 2, none⟩ v) := by
  subst hn
  subst hx
  have hgs := h.low g h.own
  have hF : Fr S w w1 := (Fr.refl S w).grown hg (fun k hk => Or.inl (h.sub _ _ k hk))
  have hb1 : w1.heap[g]? = some (.cells #[.int .i64 (p : Int), .bool true, .slice A B.length cap] 84 (0, 0)) := (hg.block g hgs (fun e => h.off m cap e.symm)).trans h.blk
  have hFF : Fr S w (w1.setCell ⟨g, 2, none⟩ v) := hF.setCell (p := ⟨g, 2, none⟩) (Or.inl h.own) _
  have hrow : Own w1 0 v B' := hown
  obtain ⟨A', cap', rfl⟩ : ∃ A' cap', v = .slice A' B'.length cap' := by
    rcases hown.2 with ⟨e, e2⟩ | ⟨q, c, cur, e, _⟩
    · exact ⟨none, 0, by rw [e, e2]⟩
    · exact ⟨some ⟨q, 0, none⟩, c, e⟩
  have hq : ∀ n c q, (Value.slice A' n c).ownBlock = some q → q ≠ g ∧ (S q ∨ (w.heap.size ≤ q ∧ q < w1.heap.size)) := by
    intro n c q hq
    rw [blk_any (n' := B'.length) (c' := cap')] at hq
    rcases hat with e | e
    · rw [hq] at e
      exact ⟨fun e2 => h.off m cap (by rw [← e, e2]), Or.inl (h.sub _ _ q e.symm)⟩
    · rw [hq] at e
      cases e
      refine ⟨by omega, Or.inr ⟨Nat.le_refl _, ?_⟩⟩
      rcases hown.2 with ⟨e, _⟩ | ⟨q, c, cur, e, _, hh, _⟩
      · rw [e] at hq; cases hq
      · rw [e] at hq
        have hlt := (Array.getElem?_eq_some_iff.1 hh).1
        cases hq
        exact hlt
  refine ⟨A', cap', rfl, ⟨by rw [heap_setCell_same _ _ _ _ _ _ hb1]; rfl, Or.inl h.own, own_keep hrow (fun q e => Below.heap_setCell _ _ _ _ (hq _ _ q e).1), fun n c e => (hq n c g e).1 rfl, fun n c q e => (hq n c q e).2, fun i hi => ?_⟩, hFF⟩
  have hsz : (w1.setCell ⟨g, 2, none⟩ (.slice A' B'.length cap')).heap.size = w1.heap.size := by simp [World.setCell]
  rw [hsz]
  rcases hi with hi | hi
  · exact Nat.lt_of_lt_of_le (h.low i hi) hF.size
  · exact hi.2
/-- .. and lies in fewer blocks' names. -/
theorem WrM.rd (h : WrM w g A cap p B S) : Rd w w.heap.size A B := h.row.rd
end
section
variable {w : World} {g cap p : Nat} {A : Option Addr} {B : List UInt8} {S : Nat → Prop}
set_option maxHeartbeats 2000000 in
theorem wmissing (h : WrM w g A cap p B S) : Calls Try.prog 53 #[.pointer (some ⟨g, 0, none⟩)] w fun e w' => e = .returned (.bool false) ∧ w = w' := by
  have c1 := h.c1
  clear h
  go_enter Try.func53, Try.ntmps53
  go_wp2_with fail
  go_ret
  exact ⟨rfl, rfl⟩
set_option maxHeartbeats 2000000 in
theorem wlen (h : WrM w g A cap p B S) : Calls Try.prog 31 #[.pointer (some ⟨g, 0, none⟩)] w fun e w' => e = .returned (.int .i64 (p : Int)) ∧ w = w' := by
  have HM := Lib.hid (wmissing h)
  have c0 := h.c0
  clear h
  go_enter Try.func31, Try.ntmps31
  go_wp2_with (go_at_call 53; refine HM.out.mono ?_; rintro e w' ⟨rfl, rfl⟩)
  go_ret
  exact ⟨rfl, rfl⟩
set_option maxHeartbeats 2000000 in
theorem wall (h : WrM w g A cap p B S) (hB : B.length ≤ 140737488351232) : Calls Try.prog 30 #[.pointer (some ⟨g, 0, none⟩)] w (NewB w B) := by
  have HM := Lib.hid (wmissing h)
  have c2 := h.c2
  have HC := Lib.hid (clone_any w A B.length cap w.heap.size B h.row.rd rfl (Nat.le_refl _) (own_cap2 h.row).1 hB)
  obtain ⟨n, hn⟩ : ∃ n, n = B.length := ⟨_, rfl⟩
  rw [← hn] at c2 HC
  have HN := Lib.hid hn
  clear h hn hB
  go_enter Try.func30, Try.ntmps30
  go_wp2_with (first
    | (go_at_call 53; refine HM.out.mono ?_; rintro e w' ⟨rfl, rfl⟩)
    | (go_at_call 45; refine HC.out.mono ?_; rintro e w1 ⟨A1, cap1, rfl, ho, hF⟩))
  go_ret
  exact ⟨A1, cap1, rfl, ho, hF⟩
/-- Does a number go into so many bits? By its form in the code. -/
theorem shr_low {n : Int} {K : Nat} (hK : K ≤ 24) : lowB n K = decide (n / 2 ^ K = 0) := by
  have hp : (0 : Int) < 2 ^ K := Int.pow_pos (by omega)
  unfold lowB mayB
  rw [decide_eq_true (by omega : (0 : Int) ≤ K), decide_eq_true (by omega : (K : Int) ≤ 24), Int.toNat_natCast]
  by_cases h : 0 ≤ n
  · rw [decide_eq_true h]; rfl
  · rw [decide_eq_false h, decide_eq_false]
    · rfl
    · intro e
      have := Int.ediv_lt_of_lt_mul (a := n) (b := 0) hp (by omega)
      omega
set_option maxHeartbeats 4000000 in
theorem wmayput (h : WrM w g A cap p B S) (n k : Int) (hk : Big k) : Calls Try.prog 63 #[.pointer (some ⟨g, 0, none⟩), .int .i64 n, .int .i64 k] w fun e w' => e = .returned (.int .i64 (putZ n k)) ∧ w = w' := by
  have HM := Lib.hid (wmissing h)
  have HB := Lib.hid (pmaybe w k hk)
  by_cases h1 : k < 0 ∨ 24 < k
  · have HV := Lib.hid (show putZ n k = 2 by
      unfold putZ lowB mayB
      rcases h1 with h1 | h1
      · rw [decide_eq_false (p := 0 ≤ k) (by omega)]; rfl
      · rw [decide_eq_false (p := k ≤ 24) (by omega), Bool.and_false]; rfl)
    rw [mayD h1] at HB
    rw [HV.out]
    clear h h1
    go_enter Try.func63, Try.ntmps63
    go_wp2_with (first
      | (go_at_call 53; refine HM.out.mono ?_; rintro e w' ⟨rfl, rfl⟩)
      | (go_at_call 68; refine HB.out.mono ?_; rintro e w' ⟨rfl, rfl⟩))
    go_ret
    exact ⟨rfl, rfl⟩
  rw [mayD' h1] at HB
  obtain ⟨K, rfl⟩ : ∃ K : Nat, k = K := ⟨k.toNat, by omega⟩
  have hK : K ≤ 24 := by omega
  have HZ := shr_low (n := n) hK
  by_cases h2 : n / 2 ^ K = 0
  · have HV := Lib.hid (show putZ n K = 0 by unfold putZ; rw [HZ, decide_eq_true h2]; rfl)
    rw [HV.out]
    clear h h1 HZ
    go_enter Try.func63, Try.ntmps63
    go_wp2_with (first
      | (go_at_call 53; refine HM.out.mono ?_; rintro e w' ⟨rfl, rfl⟩)
      | (go_at_call 68; refine HB.out.mono ?_; rintro e w' ⟨rfl, rfl⟩))
    go_ret
    exact ⟨rfl, rfl⟩
  · have HV := Lib.hid (show putZ n K = 2 by unfold putZ; rw [HZ, decide_eq_false h2]; rfl)
    rw [HV.out]
    have hne : (n / 2 ^ K != 0) = true := bne_iff_ne.2 h2
    clear h h1 HZ h2
    go_enter Try.func63, Try.ntmps63
    go_wp2_with (first
      | (go_at_call 53; refine HM.out.mono ?_; rintro e w' ⟨rfl, rfl⟩)
      | (go_at_call 68; refine HB.out.mono ?_; rintro e w' ⟨rfl, rfl⟩))
    go_ret
    exact ⟨rfl, rfl⟩
end
end Go.Proofs.Ytnibbopdjeagoaa.fl
