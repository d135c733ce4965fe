/-
  Image, with what its answer has room for; what a commit of the statements leaves (mathematics).
-/
import Derived.Test.YtflapnbpaodhaaaGreatDoorHdD
namespace Go.Proofs.YtflapnbpaodhaaaGreatDoor.gx
set_option maxRecDepth 100000
open Go.RowKit Go.Maps
set_option maxRecDepth 100000

/-- A new slice of a disk's bytes. -/
def NewX (w : World) (N : Nat) (G : Nat → List UInt8) (e : Ending) (w' : World) : Prop :=
  ∃ g, e = .returned (.slice (some ⟨g, 0, none⟩) (N * 256) (N * 256)) ∧ w.heap.size ≤ g ∧ ds.Ty w' 5 g ∧ Reads w' g 0 (gath G N) ∧ Fr (fun _ => False) w w'
theorem ends_x {w : World} {N : Nat} {G : Nat → List UInt8} {wr : World} (h : GatAt w w.heap.size N G N wr) : ds.Ty wr 5 w.heap.size ∧ Reads wr w.heap.size 0 (gath G N) ∧ Fr (fun _ => False) w wr := by
  rcases h.own.2 with ⟨e, _⟩ | ⟨g, cap, cur, hv, _, hg, _, _, _, hx⟩
  · cases e
  · cases hv
    rw [Nat.mul_one] at hx
    exact ⟨⟨_, hg⟩, reads_of_row hg hx, h.fr⟩
set_option maxRecDepth 100000 in
set_option maxHeartbeats 1000000 in
theorem gatherX (w : World) {pb N : Nat} {bv bt : Nat} {ops lim : Int} {dk : Bool} (hb : Blk w pb N bv bt ops lim dk) (hN0 : 1 ≤ N) (hN : N ≤ 4096) (G : Nat → List UInt8) (hG : ∀ k, k < N → (G k).length = 256) (hcall : CallL w pb N G) :
    Calls Tryz.prog 43 #[.pointer (some ⟨pb, 0, none⟩), .func (.func 31) #[.pointer (some ⟨pb, 0, none⟩)] #[]] w (NewX w N G) := by
  obtain ⟨i0, hi, hz0, hz1, hz2⟩ := info_parts infoB
  have HB := Lib.hid hb
  have c0 := hb.c0
  have HC := Lib.hid hcall
  have HG := Lib.hid hG
  have hmul : ((N : Int) * 256) = ((N * 256 : Nat) : Int) := by omega
  have HI := Lib.hid (show Tryz.prog.info? 5 = some i0 ∧ i0.zero = some (.int .u8 0) ∧ i0.size = 1 ∧ i0.bytes * (N * 256) ≤ 281474976710656 ∧ N * 256 ≤ maxLen from ⟨hi, hz0, hz1, by rw [hz2]; omega, by unfold maxLen; omega⟩)
  have HMUL := Lib.hid hmul
  clear hi hz0 hz1 hz2 hmul hb hcall hG
  go_enter Tryz.func43, Tryz.ntmps43
  go_wp2_with (first
    | ((with_reducible refine wpList_make_own _ ?_ (.const (.int .i64 0)) (.tmp 12) 33 ?_ w.heap.size 5 i0 (.int .u8 0) 1 Tryz.underlying33 HI.out.1 HI.out.2.1 HI.out.2.2.1 .i64 .i64 _ (N * 256) ?_ ?_ HMUL.out HI.out.2.2.2.1 HI.out.2.2.2.2 (Nat.le_refl _) ?_); (exact rfl); (exact rfl); (exact rfl); (exact rfl); intro w1 hown1 hg1; have HO1 := Lib.hid hown1; have HF1 := Lib.hid ((Fr.refl (fun _ => False) w).grown hg1 (fun k e => by cases e)); have c0 := (HB.out.kept HF1.out id).c0; clear hown1 hg1))
  go_loopw [5, 18] (fun v i wr => ∃ k : Nat, k ≤ N ∧ i = .int .i64 k ∧ v = .slice (some ⟨w.heap.size, 0, none⟩) (k * 256) (N * 256) ∧ Hid (GatAt w w.heap.size N G k wr)) (fun _ i _ => N - (intOf i).toNat)
  case atStart => exact ⟨0, Nat.zero_le _, rfl, by rw [Nat.zero_mul], (show GatAt _ _ _ _ _ _ from ⟨by rw [Nat.zero_mul]; exact HO1.out, HF1.out⟩)⟩
  case round =>
    obtain ⟨k, hk, rfl, rfl, HA⟩ := hrel
    by_cases hlt : k < N
    · have HCK := Lib.hid (HC.out wr k hlt HA.out.fr)
      have HLEN := Lib.hid (HG.out k hlt)
      have HFIT : Hid (k * 256 + 256 ≤ N * 256 ∧ (cellsOf (G k)).length = 256 * 1) := ⟨by omega, by rw [cellsOf_length, HLEN.out]⟩
      go_wp2_with (first
        | (go_at_call 31; refine (HCK.out).mono ?_; rintro e w2 ⟨rfl, _, hB2⟩; have HAL := Lib.hid (heap_alloc_new w2 (.cells (secC noughts) 68)); have HB2 := Lib.hid hB2; clear hB2)
        | ((with_reducible refine wpList_allocArr ?_ ?_ ?_); (exact rfl); (exact rfl))
        | ((with_reducible refine wpList_storeArr ?_ (.tmp 7) (.tmp 23) ?_ w2.heap.size (G k) noughts HLEN.out noughts_length ?_ ?_ HAL.out ?_); (exact rfl); (exact rfl); (exact rfl); (exact rfl); intro w3 h3 hF3 hs3; have H3 := Lib.hid h3; have HF3 := Lib.hid hF3; clear h3 hF3 hs3
           have HO3 := Lib.hid (HA.out.kept (Fr.mid HB2.out HF3.out))
           have HSRC := Lib.hid (src_of_block H3.out))
        | ((with_reducible refine wpList_sliceArr ?_ (.tmp 7) ?_ w2.heap.size ?_ ?_); (exact rfl); (exact rfl); (exact rfl))
        | ((with_reducible refine wpList_append_fits _ ?_ (.tmp 24) (.tmp 25) 33 ?_ w.heap.size 5 i0 1 Tryz.underlying33 HI.out.1 HI.out.2.2.1 w.heap.size (k * 256) (N * 256) (cellsOf (gath G k)) ?_ HO3.out.own ⟨w2.heap.size, 0, none⟩ 256 256 (cellsOf (G k)) ?_ HFIT.out.2 HSRC.out (cellsOf_one _) HFIT.out.1 ?_); (exact rfl); (exact rfl); (exact rfl); (exact rfl); intro w4 hown4 hg4; have HO4 := Lib.hid hown4; have HG4 := Lib.hid hg4; clear hown4 hg4))
      go_roundw
      case rel => exact ⟨k + 1, by omega, by go_num, by rw [Nat.succ_mul], (show GatAt _ _ _ _ _ _ from ⟨by rw [Nat.succ_mul, gath, cellsOf_append]; exact HO4.out, HO3.out.fr.grown HG4.out (fun j e => by cases e; exact Or.inr (Nat.le_refl _))⟩)⟩
      case measure => simp [intOf]; omega
    · have hkN : k = N := by omega
      subst hkN
      have HE := Lib.hid (ends_x HA.out)
      go_wp2
      go_ret
      exact ⟨w.heap.size, rfl, Nat.le_refl _, HE.out⟩

set_option maxHeartbeats 1000000 in
theorem allX (w : World) {pb N : Nat} {bv bt : Nat} {ops lim : Int} {dk : Bool} (hb : Blk w pb N bv bt ops lim dk) (hN0 : 1 ≤ N) (hN : N ≤ 4096) (G : Nat → List UInt8) (hG : ∀ k, k < N → (G k).length = 256) (hcall : CallL w pb N G) :
    Calls Tryz.prog 17 #[.pointer (some ⟨pb, 0, none⟩)] w (NewX w N G) := by
  have c0 := hb.c0
  have HM := Lib.hid (made_yes pb N w c0 (by omega))
  have HGA := Lib.hid (gatherX w hb hN0 hN G hG hcall)
  clear hb hG hcall
  go_enter Tryz.func17, Tryz.ntmps17
  go_wp2_with (first
    | (go_at_call 29; refine (HM.out).mono ?_; rintro e w' ⟨rfl, rfl⟩)
    | (go_at_call 43; refine (HGA.out).mono ?_; rintro e w2 ⟨g, rfl, h1, h2, h3, h4⟩; have H := Lib.hid (show w.heap.size ≤ g ∧ ds.Ty w2 5 g ∧ Reads w2 g 0 (gath G N) ∧ Fr (fun _ => False) w w2 from ⟨h1, h2, h3, h4⟩); clear h1 h2 h3 h4))
  go_ret
  exact ⟨g, rfl, H.out.1, H.out.2.1, H.out.2.2.1, H.out.2.2.2⟩


end Go.Proofs.YtflapnbpaodhaaaGreatDoor.gx
namespace Go.Proofs.YtflapnbpaodhaaaGreatDoor.hd
open Go.RowKit Go.Maps ds gx
set_option maxRecDepth 100000
theorem imageX {w0 w : World} {pb N B : Nat} {d : DS} (h : IsD w0 pb N B d w) : Calls Tryz.prog 17 #[.pointer (some ⟨pb, 0, none⟩)] w (NewX w N fun k => d.img k) := by
  have hh := h
  obtain ⟨⟨bv, bt, c, V, T, hg, hm, _⟩, _⟩ := h
  have hn1 := hg.n1
  obtain ⟨nv, nt, hd, ha, hb⟩ := hg.disk
  have hsm := hg.small
  have hT : ∀ s, I64 s → 0 ≤ T s ∧ T s ≤ 1000000000000 := fun s hs => by have := hg.turns s hs; omega
  have hs : ∀ k : Nat, k < N → I64 (k : Int) := fun k hk => by constructor <;> omega
  have hTs : ∀ k : Nat, k < N → I64 (T k) := fun k hk => by have := hT k (hs k hk); constructor <;> omega
  refine allX w hd.blk hg.n0 hg.n1 _ (fun k hk => hh.len (by omega) (by omega)) (fun wr k hk hF => ?_)
  have h' := hd.kept hF id id id
  have := latest_any wr h'.blk h'.sec h'.turn k (hs k hk) (hTs k hk)
  rwa [(hm k (hs k hk)).1] at this
theorem SlT.calm {w w' : World} {p : Option Addr} {cap : Nat} {l : List (Int × List UInt8)} (h : SlT w p cap l) (hF : Fr (fun _ => False) w w') : SlT w' p cap l :=
  ⟨h.bks.keep (Keep.of_fr hF), h.none_, fun a ha => by
    obtain ⟨b, o, e, hb⟩ := h.some_ a ha
    exact ⟨b, o, e, Nat.lt_of_lt_of_le hb hF.size⟩⟩
theorem gath_get {G : Nat → List UInt8} : ∀ {N : Nat}, (∀ k, k < N → (G k).length = 256) → ∀ i j, i < N → j < 256 → (gath G N)[i * 256 + j]? = (G i)[j]?
  | 0, _, i, j, hi, _ => by omega
  | n + 1, hG, i, j, hi, hj => by
    have hl : (gath G n).length = n * 256 := gath_length (N := n + 1) hG n (by omega)
    rw [gath]
    by_cases h : i < n
    · rw [List.getElem?_append_left (by rw [hl]; omega)]
      exact gath_get (fun k hk => hG k (by omega)) i j h hj
    · obtain rfl : i = n := by omega
      rw [List.getElem?_append_right (by rw [hl]; omega), hl]
      congr 1
      omega
theorem reads_part {w : World} {g N : Nat} {G : Nat → List UInt8} (h : Reads w g 0 (gath G N)) (hG : ∀ k, k < N → (G k).length = 256) {i : Nat} (hi : i < N) : Reads w g (i * 256) (G i) := fun j b hj => by
  have hj2 : j < 256 := by have h1 := (List.getElem?_eq_some_iff.1 hj).1; rw [hG i hi] at h1; exact h1
  have := h (i * 256 + j) b ((gath_get hG i j hi hj2).trans hj)
  rwa [Nat.zero_add] at this

theorem badF_ok {lo hi : Int} : ∀ (l : List (Int × List UInt8)) (pr : Option Int), (∀ x ∈ l, lo ≤ x.1 ∧ x.1 < hi) → l.Pairwise (fun a b => a.1 < b.1) → (∀ a, pr = some a → ∀ x ∈ l, a < x.1) → badF lo hi pr l = false
  | [], _, _, _, _ => rfl
  | x :: r, pr, h, hp, hpr => by
    obtain ⟨p1, p2⟩ := List.pairwise_cons.1 hp
    have h0 := h x (by simp)
    have h3 : pr ≠ some x.1 := fun e => by have := hpr _ e x (by simp); omega
    rw [badF, badF_ok r (some x.1) (fun y hy => h y (by simp [hy])) p2 (fun a ha y hy => by cases ha; exact p1 y hy), decide_eq_true h0.1, decide_eq_true h0.2, decide_eq_false h3]
    rfl
theorem blF_map : ∀ (xs : List Int) (c : UInt8), (blF c xs).map (·.1) = xs
  | [], c => rfl
  | x :: r, c => by rw [blF, List.map_cons, blF_map r (c + 1)]
theorem blF_mem {xs : List Int} {c : UInt8} {y : Int × List UInt8} (h : y ∈ blF c xs) : y.1 ∈ xs := by
  rw [← blF_map xs c]
  exact List.mem_map_of_mem h
theorem aheadF_lt : ∀ (l : List (Int × List UInt8)) (a : Nat), ∀ x ∈ aheadF a l, (a : Int) ≤ x.1 ∧ x.1 < ((a + l.length : Nat) : Int)
  | [], _, x, h => by cases h
  | y :: r, a, x, h => by
    rcases List.mem_cons.1 h with rfl | h
    · rw [List.length_cons]; show (a : Int) ≤ (a : Int) ∧ (a : Int) < _; omega
    · have := aheadF_lt r (a + 1) x h
      rw [List.length_cons]
      omega
/-- What the statement's commit leaves. -/
structure Costs (N K : Nat) (xs : List Int) (c : UInt8) (d d' : DS) : Prop where
  live : Live d'
  cl : d'.cl = true
  ops : d'.ops = d.ops + (if K = 0 then 0 else 2 * (K : Int) + 6)
  want : ∀ x ∈ blF c xs, 0 ≤ x.1 ∧ x.1 < N ∧ d'.img x.1 = x.2
  rest : ∀ i : Int, ¬ (2 ≤ i ∧ i < 8) → i ∉ xs → d'.img i = d.img i
theorem costs_of {N K : Nat} {xs : List Int} {c : UInt8} {d : DS} (hL : Live d) (hc : d.cl = true) (hX : AtX N K xs) (hK : K ≤ 5) {l' : List (Int × List UInt8)} (hp : l'.Perm (blF c xs)) (hs : l'.Pairwise (fun a b => a.1 ≤ b.1)) :
    (comR N 2 5 d 0 false l').2.1 = 0 ∧ Costs N K xs c d (comR N 2 5 d 0 false l').1 := by
  have hm : (l'.map (·.1)).Perm xs := by have := hp.map (·.1); rwa [blF_map] at this
  have hne : l'.Pairwise (fun a b => a.1 ≠ b.1) := by
    have h : (l'.map (·.1)).Nodup := hm.nodup_iff.2 hX.2.1
    exact List.pairwise_map.1 h
  have hlt : l'.Pairwise (fun a b => a.1 < b.1) := (hs.and hne).imp (fun h => by omega)
  have hin : ∀ x ∈ l', x.1 ∈ xs := fun x hx => blF_mem (hp.mem_iff.1 hx)
  have hlen : l'.length = K := by rw [hp.length_eq, blF_length, hX.1]
  have hr : refR ((2 + 1 + 5 : Nat) : Int) N 5 l' = 0 := by
    unfold refR
    rw [badF_ok l' none (fun x hx => by have := hX.2.2 _ (hin x hx); omega) hlt (fun a e => by cases e), if_neg (by simp), if_neg (by omega)]
  have hw : ∀ x ∈ blF c xs, 0 ≤ x.1 ∧ x.1 < (N : Int) := fun x hx => by have := hX.2.2 _ (blF_mem hx); omega
  by_cases he : l' = []
  · subst he
    have hxs : xs = [] := by have := hX.1; simp at hlen; subst hlen; exact List.eq_nil_of_length_eq_zero this
    subst hxs
    have e : comR N 2 5 d 0 false [] = (d, 0, 0, false) := by unfold comR; rw [if_neg (by rw [hr]; simp), if_pos rfl]
    rw [e]
    simp at hlen
    exact ⟨rfl, hL, hc, (by subst hlen; simp), (fun x hx => by cases hx), fun _ _ _ => rfl⟩
  · obtain ⟨a, b⟩ := comR_live (N := N) (at_ := 2) (rc := 5) hL (t0 := 0) hr he
    have hK0 : K ≠ 0 := by
      intro e
      rw [e] at hlen
      exact he (List.eq_nil_of_length_eq_zero hlen)
    refine ⟨(by rw [a]), b.live, b.cl, by rw [b.ops, if_neg hK0, hlen], fun x hx => ⟨(hw x hx).1, (hw x hx).2, ?_⟩, fun i h1 h2 => ?_⟩
    · have h8 := hX.2.2 _ (blF_mem hx)
      rw [b.img, comI, wrI_not [(((2 : Nat) : Int), _)] _ (fun y hy => by obtain rfl := List.mem_singleton.1 hy; show ((2 : Nat) : Int) ≠ x.1; omega)]
      exact wrI_at l' _ hne (hp.mem_iff.2 hx)
    · rw [b.img, comI, wrI_not [(((2 : Nat) : Int), _)] _ (fun y hy => by obtain rfl := List.mem_singleton.1 hy; show ((2 : Nat) : Int) ≠ i; omega),
        wrI_not l' _ (fun y hy e => h2 (by have h := hin y hy; rw [e] at h; exact h)),
        wrI_not [(((2 : Nat) : Int), _)] _ (fun y hy => by obtain rfl := List.mem_singleton.1 hy; show ((2 : Nat) : Int) ≠ i; omega),
        wrI_not (aheadF (2 + 1) l') _ (fun y hy => by have := aheadF_lt l' (2 + 1) y hy; omega)]
end Go.Proofs.YtflapnbpaodhaaaGreatDoor.hd
