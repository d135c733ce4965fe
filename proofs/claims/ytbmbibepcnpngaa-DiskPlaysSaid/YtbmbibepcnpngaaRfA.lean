/-
  The document's disk: take, Limit, Read, Pending, Image, Sure.
-/
import Derived.Test.YtbmbibepcnpngaaRfM
import Derived.Deep.LoopGhost
namespace Go.Proofs.Ytbmbibepcnpngaa.rf
open Go.RowKit Go.Maps

set_option maxRecDepth 100000 in
set_option maxHeartbeats 1000000 in
theorem sector_any (w : World) (A : Option Addr) (cap n B : Nat) (l : List UInt8) (hr : Rd w B A l) (hn : l.length = n) (hB : B ≤ w.heap.size) (hA : A = none → cap = 0) (hl : n ≤ 140737488351232) :
    Calls Try.prog 40 #[.slice A n cap] w fun e w' => NewB w l e w' := by
  obtain ⟨i0, hi, hz0, hz1, hz2⟩ := info_parts infoB
  have hO : (w.alloc (.cells #[] 5)).ownsRow w.heap.size 5 1 (.slice (some ⟨w.heap.size, 0, none⟩) 0 0) 0 [] := World.ownsRow_made w #[] 0 (Nat.le_refl _) (Nat.zero_le _) (by simp)
  have hF : Fr (fun _ => False) w (w.alloc (.cells #[] 5)) := (Fr.refl _ w).alloc _
  have HO := Lib.hid hO
  have HF := Lib.hid hF
  have HI := Lib.hid (⟨hi, hz0, hz1, hz2⟩ : _ ∧ _ ∧ _ ∧ _)
  clear hO hF hi hz0 hz1 hz2
  have HN := Lib.hid hn
  cases A with
  | none =>
    have h0 : l = [] := by
      apply Decidable.byContradiction
      intro hne
      obtain ⟨_, _, e, _⟩ := hr hne
      cases e
    obtain rfl : cap = 0 := hA rfl
    obtain rfl : n = 0 := by rw [← hn, h0]; rfl
    have H0 := Lib.hid h0
    clear hr hA hl hn h0
    go_enter Try.func40, Try.ntmps40
    go_wp2_with (at_builtin; refine wpList_append_own_none rfl (.tmp 3) (.tmp 4) 22 rfl w.heap.size 5 i0 1 Try.underlying22 HI.out.1 _ 0 [] rfl HO.out rfl ?_)
    go_ret
    exact NewB.of_own (HN.out.symm) (by rw [H0.out]; rfl) (by simp) HO.out HF.out
  | some ad =>
    have hr1 := hr.still HF.out hB
    have HS := Lib.hid hr1.src
    clear hr hA hn hr1
    go_enter Try.func40, Try.ntmps40
    go_wp2_with (at_builtin; refine wpList_append_own _ rfl (.tmp 3) (.tmp 4) 22 rfl w.heap.size 5 i0 (.int .u8 0) 1 1 Try.underlying22 HI.out.1 HI.out.2.1 HI.out.2.2.1 HI.out.2.2.2 rfl (by omega) _ 0 [] rfl HO.out ad n cap (bs l) rfl ?c1 HS.out (bs_one l) ?c2 ?c3 ?c4 ?c5)
    case c1 => rw [bs_length, HN.out]; omega
    case c2 => unfold maxLen; omega
    case c3 => omega
    case c4 => simp
    case c5 =>
      intro v' w1 hown hgrow hnil
      have hfr := HF.out.grown hgrow (fun k hk => Or.inr (by simp [Value.ownBlock] at hk; omega))
      have HW := Lib.hid (⟨hown, hfr, hnil⟩ : _ ∧ _ ∧ _)
      clear hown hgrow hnil hfr
      go_wp2
      go_ret
      exact NewB.of_own HN.out.symm rfl HW.out.2.2 HW.out.1 HW.out.2.1

/-- A new sector's bytes. -/
def NewS (w : World) (x : List UInt8) (e : Ending) (w' : World) : Prop := ∃ g c, e = .returned (.slice (some ⟨g, 0, none⟩) 256 c) ∧ w.heap.size ≤ g ∧ Byt (fun _ => False) w' g x ∧ Fr (fun _ => False) w w'
theorem sector_new {X : Nat → Prop} (w : World) (g c : Nat) (x : List UInt8) (hx : Byt X w g x) : Calls Try.prog 40 #[.slice (some ⟨g, 0, none⟩) 256 c] w fun e w' => NewS w x e w' := by
  have hl : x.length = 256 := by obtain ⟨_, _, _, h, _⟩ := hx; exact h
  refine (sector_any w _ c 256 _ x hx.rd hl (Nat.le_refl _) (fun e => by cases e) (by omega)).mono ?_
  rintro e w' ⟨A, cap, rfl, ho, hF⟩
  obtain ⟨g', rfl, hg, hb⟩ := Byt.of_own (X := fun _ => False) ho hl (fun _ e => e.elim)
  exact ⟨g', cap, by rw [hl], hg, hb, hF⟩

section
variable {X : Nat → Prop} {base : Nat} {w : World} {yb gv N : Nat} {L : Nat → List (List UInt8)} {left : Int} {off : Bool} {taken : Int}

set_option maxHeartbeats 400000 in
theorem take_no (h : RD X base w yb gv N L left off taken) (hl : off = true ∨ left = 0) :
    Calls Try.prog 44 #[.pointer (some ⟨yb, 0, none⟩)] w fun e w' => e = .returned (.bool false) ∧ RD X base w' yb gv N L left true taken ∧ Fr (fun i => i = yb) w w' := by
  have c1 := h.c1
  have c2 := h.c2
  have f2 := h.free 2
  have HR := Lib.hid (h.set2 true)
  have HF := Lib.hid (fr_set w yb 2 (.bool true))
  clear h
  cases off with
  | true =>
    clear hl
    go_enter Try.func44, Try.ntmps44
    go_wp2_with fail
    go_ret
    exact ⟨rfl, HR.out, HF.out⟩
  | false =>
    obtain rfl : left = 0 := by rcases hl with h | h; cases h; exact h
    clear hl
    go_enter Try.func44, Try.ntmps44
    go_wp2_with fail
    go_ret
    exact ⟨rfl, HR.out, HF.out⟩
def less (left : Int) : Int := if 0 < left then left - 1 else left
set_option maxHeartbeats 400000 in
theorem take_yes (h : RD X base w yb gv N L left false taken) (hl : left ≠ 0) (hl0 : -1 ≤ left) (hl1 : left ≤ 9223372036854775807) (ht0 : 0 ≤ taken) (ht1 : taken ≤ 1000000000) :
    Calls Try.prog 44 #[.pointer (some ⟨yb, 0, none⟩)] w fun e w' => e = .returned (.bool true) ∧ RD X base w' yb gv N L (less left) false (taken + 1) ∧ Fr (fun i => i = yb) w w' := by
  have c1 := h.c1
  have c2 := h.c2
  have c3 := h.c3
  have f1 := h.free 1
  have f3 := h.free 3
  have hne : (left == 0) = false := by rw [beq_eq_false_iff_ne]; exact hl
  by_cases hp : 0 < left
  · have hls : less left = left - 1 := if_pos hp
    have HR := Lib.hid ((h.set1 (left - 1)).set3 (taken + 1))
    have HF := Lib.hid ((fr_set w yb 1 (.int .i64 (left - 1))).trans (fr_set _ yb 3 (.int .i64 (taken + 1))) (fun _ _ e => e))
    have HL := Lib.hid hls
    clear h hls
    go_enter Try.func44, Try.ntmps44
    go_wp2_with fail
    go_ret
    rw [HL.out]
    exact ⟨rfl, HR.out, HF.out⟩
  · have hls : less left = left := if_neg hp
    have hm : left ≤ 0 := by omega
    have HR := Lib.hid (h.set3 (taken + 1))
    have HF := Lib.hid (fr_set w yb 3 (.int .i64 (taken + 1)))
    have HL := Lib.hid hls
    clear h hls hp
    go_enter Try.func44, Try.ntmps44
    go_wp2_with fail
    go_ret
    rw [HL.out]
    exact ⟨rfl, HR.out, HF.out⟩

set_option maxHeartbeats 400000 in
theorem limit_any (h : RD X base w yb gv N L left off taken) (n : Int) :
    Calls Try.prog 24 #[.pointer (some ⟨yb, 0, none⟩), .int .i64 n] w fun e w' => e = .returned (.tuple #[]) ∧ RD X base w' yb gv N L (max (-1) n) off taken ∧ Fr (fun i => i = yb) w w' := by
  have f1 := h.free 1
  have c1 := h.c1
  by_cases hp : -1 < n
  · have HR := Lib.hid (h.set1 n)
    have HF := Lib.hid (fr_set w yb 1 (.int .i64 n))
    have HM := Lib.hid (show max (-1) n = n by omega)
    clear h
    go_enter Try.func24, Try.ntmps24
    go_wp2_with fail
    go_end0
    rw [HM.out]
    exact ⟨rfl, HR.out, HF.out⟩
  · have hm : n ≤ -1 := by omega
    have HR := Lib.hid (h.set1 (-1))
    have HF := Lib.hid (fr_set w yb 1 (.int .i64 (-1)))
    have HM := Lib.hid (show max (-1) n = -1 by omega)
    clear h hp
    go_enter Try.func24, Try.ntmps24
    go_wp2_with fail
    go_end0
    rw [HM.out]
    exact ⟨rfl, HR.out, HF.out⟩

/-- The first of a sector's values: the sure one. -/
def firstOf (l : List (List UInt8)) : List UInt8 := l.getD 0 []
/-- The last of a sector's values. -/
def lastOf (l : List (List UInt8)) : List UInt8 := l.getD (l.length - 1) []
theorem last_at {l : List (List UInt8)} (h : 1 ≤ l.length) : l[l.length - 1]? = some (lastOf l) := by
  unfold lastOf
  rw [List.getD_eq_getElem?_getD, List.getElem?_eq_getElem (by omega), Option.getD_some]
/-- .. as the reading finds it. -/
theorem RD.last (h : RD X base w yb gv N L left off taken) {j : Nat} (hj : j < N) : ∃ b c n g c', (L j).length = n + 1 ∧ w.cell? ⟨gv, j, none⟩ = some (.slice (some ⟨b, 0, none⟩) (n + 1) c) ∧ w.cell? ⟨b, n, none⟩ = some (.slice (some ⟨g, 0, none⟩) 256 c') ∧ Byt X w g (lastOf (L j)) := by
  obtain ⟨b, c, h1, h2⟩ := h.at_ hj
  have hp := h2.pos
  obtain ⟨g, c', h3, h4⟩ := h2.at_ (last_at hp)
  refine ⟨b, c, (L j).length - 1, g, c', by omega, ?_, h3, h4⟩
  rw [h1, show (L j).length - 1 + 1 = (L j).length by omega]

set_option maxHeartbeats 400000 in
theorem read_arg (h : RD X base w yb gv N L left off taken) (at_ : Int) (ha : ¬ (0 ≤ at_ ∧ at_ < N)) :
    Calls Try.prog 21 #[.pointer (some ⟨yb, 0, none⟩), .int .i64 at_] w fun e w' => e = .returned (.tuple #[.slice none 0 0, .int .i64 2]) ∧ w = w' := by
  obtain ⟨cap, c0⟩ := h.c0
  clear h
  by_cases h0 : at_ < 0
  · clear ha
    go_enter Try.func21, Try.ntmps21
    go_wp2_with fail
    go_ret2
    exact ⟨rfl, rfl⟩
  · have h1 : (N : Int) ≤ at_ := by omega
    have h2 : 0 ≤ at_ := by omega
    clear ha h0
    go_enter Try.func21, Try.ntmps21
    go_wp2_with fail
    go_ret2
    exact ⟨rfl, rfl⟩
set_option maxHeartbeats 400000 in
theorem read_off (h : RD X base w yb gv N L left true taken) (j : Nat) (hj : j < N) :
    Calls Try.prog 21 #[.pointer (some ⟨yb, 0, none⟩), .int .i64 (j : Int)] w fun e w' => e = .returned (.tuple #[.slice none 0 0, .int .i64 10]) ∧ w = w' := by
  obtain ⟨cap, c0⟩ := h.c0
  have c2 := h.c2
  clear h
  go_enter Try.func21, Try.ntmps21
  go_wp2_with fail
  go_ret2
  exact ⟨rfl, rfl⟩
/-- A new sector's bytes, and no error. -/
def NewS2 (w : World) (x : List UInt8) (e : Ending) (w' : World) : Prop := ∃ g c, e = .returned (.tuple #[.slice (some ⟨g, 0, none⟩) 256 c, .int .i64 0]) ∧ w.heap.size ≤ g ∧ Byt (fun _ => False) w' g x ∧ Fr (fun _ => False) w w'
set_option maxHeartbeats 400000 in
theorem read_ok (h : RD X base w yb gv N L left false taken) (j : Nat) (hj : j < N) (hL : (L j).length ≤ 1000000) :
    Calls Try.prog 21 #[.pointer (some ⟨yb, 0, none⟩), .int .i64 (j : Int)] w fun e w' => NewS2 w (lastOf (L j)) e w' := by
  obtain ⟨cap, c0⟩ := h.c0
  have c2 := h.c2
  obtain ⟨b, c, n, g, c', h1, h2, h3, h4⟩ := h.last hj
  have hn : n ≤ 1000000 := by omega
  have HS := Lib.hid (sector_new w g c' _ h4)
  have hj0 : (0 : Int) ≤ (j : Int) := by omega
  have hj1 : (j : Int) < N := by omega
  clear h h1 h4 hL
  go_enter Try.func21, Try.ntmps21
  go_wp2_with fail
  refine HS.out.mono ?_
  rintro e w' ⟨g', c2, rfl, a1, a2, a3⟩
  have HW := Lib.hid (⟨a1, a2, a3⟩ : _ ∧ _ ∧ _)
  clear a1 a2 a3
  go_wp2_with fail
  go_ret2
  exact ⟨g', c2, rfl, HW.out.1, HW.out.2.1, HW.out.2.2⟩

def pend (L : Nat → List (List UInt8)) : Nat → Nat
  | 0 => 0
  | k + 1 => pend L k + (if 1 < (L k).length then 1 else 0)
theorem pend_le (L : Nat → List (List UInt8)) (k : Nat) : pend L k ≤ k := by
  induction k with
  | zero => simp [pend]
  | succ k ih => rw [pend]; split <;> omega
set_option maxHeartbeats 400000 in
theorem pending_any (h : RD X base w yb gv N L left off taken) (hN : N ≤ 4096) :
    Calls Try.prog 30 #[.pointer (some ⟨yb, 0, none⟩)] w fun e w' => e = .returned (.int .i64 ((pend L N : Nat) : Int)) ∧ w = w' := by
  obtain ⟨cap, c0⟩ := h.c0
  have H := Lib.hid h
  clear h
  go_enter Try.func30, Try.ntmps30
  go_wp2_with fail
  go_loop [3, 4] (fun v i => ∃ j : Nat, j ≤ N ∧ i = .int .i64 j ∧ v = .int .i64 ((pend L j : Nat) : Int)) (fun _ i => N - (intOf i).toNat)
  case atStart => exact ⟨0, Nat.zero_le _, rfl, rfl⟩
  case round =>
    obtain ⟨j, hj, rfl, rfl⟩ := hrel
    by_cases hlt : j < N
    · obtain ⟨b, c, h1, h2⟩ := H.out.at_ hlt
      have hpl := pend_le L j
      have hj0 : (0 : Int) ≤ (j : Int) := by omega
      have hj1 : (j : Int) < N := by omega
      clear h2
      by_cases hp : 1 < (L j).length
      · have HP := Lib.hid (show pend L (j + 1) = pend L j + 1 by rw [pend, if_pos hp])
        generalize (L j).length = q at h1 hp
        generalize pend L j = p at hpl HP ⊢
        go_wp2_with fail
        go_round
        case rel => exact ⟨j + 1, by omega, by go_num, by rw [HP.out]; go_num⟩
        case measure => simp [intOf]; omega
      · have HP := Lib.hid (show pend L (j + 1) = pend L j by rw [pend, if_neg hp, Nat.add_zero])
        have hp2 : (L j).length ≤ 1 := by omega
        generalize (L j).length = q at h1 hp hp2
        generalize pend L j = p at hpl HP ⊢
        clear hp
        go_wp2_with fail
        go_round
        case rel => exact ⟨j + 1, by omega, by go_num, by rw [HP.out]⟩
        case measure => simp [intOf]; omega
    · obtain rfl : j = N := by omega
      go_wp2_with fail
      go_ret
      exact ⟨rfl, rfl⟩

/-- Sectors' bytes, one behind the other. -/
def gathL (f : Nat → List UInt8) : Nat → List UInt8
  | 0 => []
  | k + 1 => gathL f k ++ f k
theorem gathL_length (f : Nat → List UInt8) (N : Nat) (h : ∀ k, k < N → (f k).length = 256) : (gathL f N).length = 256 * N := by
  induction N with
  | zero => rfl
  | succ k ih => rw [gathL, List.length_append, ih (fun i hi => h i (by omega)), h k (by omega)]; omega
/-- Bytes of the call's own, so far. -/
def OutR (w wr : World) (v : Value) (l : List UInt8) : Prop := w.heap.size ≤ wr.heap.size ∧ Own wr w.heap.size v l ∧ Fr (fun _ => False) w wr
theorem RD.len (h : RD X base w yb gv N L left off taken) {j : Nat} (hj : j < N) : (lastOf (L j)).length = 256 := by
  obtain ⟨_, _, _, _, _, _, _, _, _, _, _, h2, _⟩ := h.last hj
  exact h2
theorem RD.first (h : RD X base w yb gv N L left off taken) {j : Nat} (hj : j < N) : ∃ b c n g c', (L j).length = n + 1 ∧ w.cell? ⟨gv, j, none⟩ = some (.slice (some ⟨b, 0, none⟩) (n + 1) c) ∧ w.cell? ⟨b, 0, none⟩ = some (.slice (some ⟨g, 0, none⟩) 256 c') ∧ Byt X w g (firstOf (L j)) := by
  obtain ⟨b, c, h1, h2⟩ := h.at_ hj
  have hp := h2.pos
  have h0 : (L j)[0]? = some (firstOf (L j)) := by unfold firstOf; rw [List.getD_eq_getElem?_getD, List.getElem?_eq_getElem (by omega), Option.getD_some]
  obtain ⟨g, c', h3, h4⟩ := h2.at_ h0
  refine ⟨b, c, (L j).length - 1, g, c', by omega, ?_, h3, h4⟩
  rw [h1, show (L j).length - 1 + 1 = (L j).length by omega]

/-- New bytes. -/
def NewL (w : World) (l : List UInt8) (e : Ending) (w' : World) : Prop := ∃ A cap, e = .returned (.slice A l.length cap) ∧ Own w' w.heap.size (.slice A l.length cap) l ∧ Fr (fun _ => False) w w'
theorem own_shape {w : World} {base n : Nat} {v : Value} {l : List UInt8} {xs : List Value} (hn : n = l.length) (hx : xs = bs l) (h : w.ownsRow base 5 1 v n xs) : ∃ A cap, v = .slice A l.length cap ∧ Own w base (.slice A l.length cap) l := by
  subst hn
  subst hx
  obtain ⟨h1, h2⟩ := id h
  rcases h2 with ⟨rfl, h0⟩ | ⟨g, cap, cur, rfl, hg, hh, r⟩
  · refine ⟨none, 0, by rw [h0], ?_⟩
    rw [h0]
    exact h
  · exact ⟨_, cap, rfl, h⟩

set_option maxRecDepth 100000 in
set_option maxHeartbeats 1000000 in
theorem image_any (h : RD X base w yb gv N L left off taken) (hN : N ≤ 4096) (hL : ∀ j, j < N → (L j).length ≤ 1000000) :
    Calls Try.prog 34 #[.pointer (some ⟨yb, 0, none⟩)] w (NewL w (gathL (fun j => lastOf (L j)) N)) := by
  obtain ⟨i0, hi, hz0, hz1, hz2⟩ := info_parts infoB
  have HI := Lib.hid (⟨hi, hz0, hz1, hz2⟩ : _ ∧ _ ∧ _ ∧ _)
  have H0 := Lib.hid (show OutR w (w.alloc (.cells #[] 5)) (.slice (some ⟨w.heap.size, 0, none⟩) 0 0) [] from ⟨by simp, World.ownsRow_made w #[] 0 (Nat.le_refl _) (Nat.zero_le _) (by simp), (Fr.refl _ w).alloc _⟩)
  have H := Lib.hid h
  have HLL := Lib.hid hL
  have HLN := Lib.hid (fun j (hj : j ≤ N) => gathL_length (fun j => lastOf (L j)) j (fun k hk => h.len (by omega)))
  clear h hL hi hz0 hz1 hz2
  go_enter Try.func34, Try.ntmps34
  go_wp2_with fail
  go_loopw [3, 4, 5] (fun v i _ wr => ∃ j : Nat, j ≤ N ∧ i = .int .i64 j ∧ ∃ A cap, v = .slice A (256 * j) cap ∧ Hid (OutR w wr (.slice A (256 * j) cap) (gathL (fun j => lastOf (L j)) j))) (fun _ i _ _ => N - (intOf i).toNat)
  case atStart => exact ⟨0, Nat.zero_le _, rfl, _, 0, rfl, H0⟩
  case round =>
    obtain ⟨j, hj, rfl, A, cap, rfl, HO⟩ := hrel
    clear H0
    have HR := Lib.hid (H.out.calm HO.out.2.2)
    obtain ⟨capv, c0⟩ := HR.out.c0
    by_cases hlt : j < N
    · obtain ⟨b, c, n, g, c', h1, h2, h3, h4⟩ := HR.out.last hlt
      have hn : n ≤ 1000000 := by have := HLL.out j hlt; omega
      have hj0 : (0 : Int) ≤ (j : Int) := by omega
      have hj1 : (j : Int) < N := by omega
      have HB := Lib.hid h4.rd.src
      have HX := Lib.hid (H.out.len hlt)
      have HL1 := Lib.hid (HLN.out j hj)
      have hown0 : wr.ownsRow w.heap.size 5 1 (.slice A (256 * j) cap) (256 * j) (bs (gathL (fun j => lastOf (L j)) j)) := by have h := HO.out.2.1; unfold Own at h; rw [HL1.out] at h; exact h
      have HOw := Lib.hid hown0
      clear hown0 h1 h4
      go_wp2_with (at_builtin; refine wpList_append_own _ rfl (.tmp 23) (.tmp 29) 22 rfl w.heap.size 5 i0 (.int .u8 0) 1 1 Try.underlying22 HI.out.1 HI.out.2.1 HI.out.2.2.1 HI.out.2.2.2 rfl (by omega) _ (256 * j) (bs (gathL (fun j => lastOf (L j)) j)) rfl HOw.out ⟨g, 0, none⟩ 256 c' (bs (lastOf (L j))) rfl ?c1 HB.out (bs_one _) ?c2 ?c3 ?c4 ?c5)
      case c1 => rw [bs_length, HX.out]
      case c2 => unfold maxLen; omega
      case c3 => omega
      case c4 => exact HO.out.1
      case c5 =>
        intro v' w1 hown hgrow hnil
        have hfr := HO.out.2.2.grown hgrow (fun k hk => by
          rcases HOw.out.2 with ⟨e, _⟩ | ⟨g, cap', cur, e, hg, _⟩
          · rw [e] at hk; cases hk
          · rw [e] at hk; cases hk; exact Or.inr hg)
        obtain ⟨A2, cap2, rfl, ho⟩ := own_shape (l := gathL (fun j => lastOf (L j)) (j + 1)) (by rw [HLN.out (j + 1) hlt]; omega) (by rw [gathL, bs_append]) hown
        rw [HLN.out (j + 1) hlt] at ho ⊢
        have HN2 := Lib.hid (show OutR w w1 (.slice A2 (256 * (j + 1)) cap2) (gathL (fun j => lastOf (L j)) (j + 1)) from ⟨hfr.size, ho, hfr⟩)
        clear hown hgrow hnil hfr ho
        go_wp2_with fail
        go_roundw
        case rel => exact ⟨j + 1, by omega, by go_num, A2, cap2, rfl, HN2⟩
        case measure => simp [intOf]; omega
    · obtain rfl : j = N := by omega
      have HL1 := Lib.hid (HLN.out j hj)
      go_wp2_with fail
      go_ret
      have h := HO.out
      rw [← HL1.out] at h ⊢
      exact ⟨A, cap, rfl, h.2.1, h.2.2⟩

theorem RD.len0 (h : RD X base w yb gv N L left off taken) {j : Nat} (hj : j < N) : (firstOf (L j)).length = 256 := by
  obtain ⟨_, _, _, _, _, _, _, _, _, _, _, h2, _⟩ := h.first hj
  exact h2
set_option maxRecDepth 100000 in
set_option maxHeartbeats 1000000 in
theorem sure_any (h : RD X base w yb gv N L left off taken) (hN : N ≤ 4096) (hL : ∀ j, j < N → (L j).length ≤ 1000000) :
    Calls Try.prog 36 #[.pointer (some ⟨yb, 0, none⟩)] w (NewL w (gathL (fun j => firstOf (L j)) N)) := by
  obtain ⟨i0, hi, hz0, hz1, hz2⟩ := info_parts infoB
  have HI := Lib.hid (⟨hi, hz0, hz1, hz2⟩ : _ ∧ _ ∧ _ ∧ _)
  have H0 := Lib.hid (show OutR w (w.alloc (.cells #[] 5)) (.slice (some ⟨w.heap.size, 0, none⟩) 0 0) [] from ⟨by simp, World.ownsRow_made w #[] 0 (Nat.le_refl _) (Nat.zero_le _) (by simp), (Fr.refl _ w).alloc _⟩)
  have H := Lib.hid h
  have HLL := Lib.hid hL
  have HLN := Lib.hid (fun j (hj : j ≤ N) => gathL_length (fun j => firstOf (L j)) j (fun k hk => h.len0 (by omega)))
  clear h hL hi hz0 hz1 hz2
  go_enter Try.func36, Try.ntmps36
  go_wp2_with fail
  go_loopw [3, 4] (fun v i wr => ∃ j : Nat, j ≤ N ∧ i = .int .i64 j ∧ ∃ A cap, v = .slice A (256 * j) cap ∧ Hid (OutR w wr (.slice A (256 * j) cap) (gathL (fun j => firstOf (L j)) j))) (fun _ i _ => N - (intOf i).toNat)
  case atStart => exact ⟨0, Nat.zero_le _, rfl, _, 0, rfl, H0⟩
  case round =>
    obtain ⟨j, hj, rfl, A, cap, rfl, HO⟩ := hrel
    clear H0
    have HR := Lib.hid (H.out.calm HO.out.2.2)
    obtain ⟨capv, c0⟩ := HR.out.c0
    by_cases hlt : j < N
    · obtain ⟨b, c, n, g, c', h1, h2, h3, h4⟩ := HR.out.first hlt
      have hn : n ≤ 1000000 := by have := HLL.out j hlt; omega
      have hj0 : (0 : Int) ≤ (j : Int) := by omega
      have hj1 : (j : Int) < N := by omega
      have HB := Lib.hid h4.rd.src
      have HX := Lib.hid (H.out.len0 hlt)
      have HL1 := Lib.hid (HLN.out j hj)
      have hown0 : wr.ownsRow w.heap.size 5 1 (.slice A (256 * j) cap) (256 * j) (bs (gathL (fun j => firstOf (L j)) j)) := by have h := HO.out.2.1; unfold Own at h; rw [HL1.out] at h; exact h
      have HOw := Lib.hid hown0
      clear hown0 h1 h4
      go_wp2_with (at_builtin; refine wpList_append_own _ rfl (.tmp 15) (.tmp 24) 22 rfl w.heap.size 5 i0 (.int .u8 0) 1 1 Try.underlying22 HI.out.1 HI.out.2.1 HI.out.2.2.1 HI.out.2.2.2 rfl (by omega) _ (256 * j) (bs (gathL (fun j => firstOf (L j)) j)) rfl HOw.out ⟨g, 0, none⟩ 256 c' (bs (firstOf (L j))) rfl ?d1 HB.out (bs_one _) ?d2 ?d3 ?d4 ?d5)
      case d1 => rw [bs_length, HX.out]
      case d2 => unfold maxLen; omega
      case d3 => omega
      case d4 => exact HO.out.1
      case d5 =>
        intro v' w1 hown hgrow hnil
        have hfr := HO.out.2.2.grown hgrow (fun k hk => by
          rcases HOw.out.2 with ⟨e, _⟩ | ⟨g, cap', cur, e, hg, _⟩
          · rw [e] at hk; cases hk
          · rw [e] at hk; cases hk; exact Or.inr hg)
        obtain ⟨A2, cap2, rfl, ho⟩ := own_shape (l := gathL (fun j => firstOf (L j)) (j + 1)) (by rw [HLN.out (j + 1) hlt]; omega) (by rw [gathL, bs_append]) hown
        rw [HLN.out (j + 1) hlt] at ho ⊢
        have HN2 := Lib.hid (show OutR w w1 (.slice A2 (256 * (j + 1)) cap2) (gathL (fun j => firstOf (L j)) (j + 1)) from ⟨hfr.size, ho, hfr⟩)
        clear hown hgrow hnil hfr ho
        go_wp2_with fail
        go_roundw
        case rel => exact ⟨j + 1, by omega, by go_num, A2, cap2, rfl, HN2⟩
        case measure => simp [intOf]; omega
    · obtain rfl : j = N := by omega
      have HL1 := Lib.hid (HLN.out j hj)
      go_wp2_with fail
      go_ret
      have h := HO.out
      rw [← HL1.out] at h ⊢
      exact ⟨A, cap, rfl, h.2.1, h.2.2⟩

end
end Go.Proofs.Ytbmbibepcnpngaa.rf
