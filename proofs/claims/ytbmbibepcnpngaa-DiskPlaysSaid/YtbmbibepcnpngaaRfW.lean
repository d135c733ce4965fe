/-
  The document's disk: Write.
-/
import Derived.Test.YtbmbibepcnpngaaRfN
import Derived.Deep.RegionLawGrows
namespace Go.Proofs.Ytbmbibepcnpngaa.rf
open Go.RowKit Go.Maps

section
variable {X : Nat → Prop}
theorem Vls.news {w : World} {b : Nat} {l : List (List UInt8)} (h : Vls X w b l) : ∃ R : List Value, R.length = l.length ∧ (∀ (k : Nat) x, l[k]? = some x → ∃ g c, R[k]? = some (.slice (some ⟨g, 0, none⟩) 256 c) ∧ Byt X w g x) ∧ (∀ (j : Nat) u, R[j]? = some u → w.cell? ⟨b, j, none⟩ = some u) ∧ ∀ u ∈ R, u.oneCell' = true := by
  obtain ⟨cs, h1, _, h3⟩ := h
  have hlen : (cs.toList.take l.length).length = l.length := by
    rw [List.length_take, Nat.min_eq_left]
    apply Nat.le_of_not_lt
    intro hlt
    obtain ⟨g, c, h4, _⟩ := h3 cs.toList.length l[cs.toList.length] (List.getElem?_eq_getElem hlt)
    have := (Array.getElem?_eq_some_iff.1 h4).1
    simp at this
  have hk : ∀ (k : Nat) x, l[k]? = some x → ∃ g c, (cs.toList.take l.length)[k]? = some (.slice (some ⟨g, 0, none⟩) 256 c) ∧ Byt X w g x := fun k x hx => by
    obtain ⟨g, c, h4, h5⟩ := h3 k x hx
    refine ⟨g, c, ?_, h5⟩
    rw [List.getElem?_take_of_lt (List.getElem?_eq_some_iff.1 hx).1, Array.getElem?_toList]
    exact h4
  refine ⟨cs.toList.take l.length, hlen, hk, fun j u hu => ?_, fun u hu => ?_⟩
  · rw [cellAt h1, ← Array.getElem?_toList]
    rw [List.getElem?_take] at hu
    split at hu
    · exact hu
    · cases hu
  · obtain ⟨j, hj⟩ := List.getElem?_of_mem hu
    have hjl := (List.getElem?_eq_some_iff.1 hj).1
    rw [hlen] at hjl
    obtain ⟨g, c, h4, _⟩ := hk j l[j] (List.getElem?_eq_getElem hjl)
    rw [hj] at h4
    cases h4
    rfl
/-- The row with one more. -/
theorem rows_snoc {w0 w : World} {gg n cap g c base : Nat} {l : List (List UInt8)} {R : List Value} {x : List UInt8} (hl : l.length = n) (hR : ∀ (k : Nat) x, l[k]? = some x → ∃ g c, R[k]? = some (.slice (some ⟨g, 0, none⟩) 256 c) ∧ Byt X w0 g x) (hRl : R.length = n) (hF : Fr (fun _ => False) w0 w) (hx : Byt X w g x)
    (hown : w.ownsRow base 22 1 (.slice (some ⟨gg, 0, none⟩) (n + 1) cap) (n + 1) (R ++ [.slice (some ⟨g, 0, none⟩) 256 c])) : Vls X w gg (l ++ [x]) := by
  rcases hown.2 with ⟨e, _⟩ | ⟨g', cap', cur, e, hg, hh, _, _, _, ht⟩
  · cases e
  · cases e
    refine ⟨cur, hh, by simp, fun k y hk => ?_⟩
    have hget : ∀ (k : Nat) u, (R ++ [Value.slice (some ⟨g, 0, none⟩) 256 c])[k]? = some u → cur[k]? = some u := fun k u hu => by
      rw [← ht, List.getElem?_take] at hu
      split at hu
      · rw [← Array.getElem?_toList]; exact hu
      · cases hu
    by_cases hkn : k < n
    · rw [List.getElem?_append_left (by omega)] at hk
      obtain ⟨g1, c1, h1, h2⟩ := hR k y hk
      exact ⟨g1, c1, hget k _ (by rw [List.getElem?_append_left (by omega)]; exact h1), h2.kept hF (S := fun _ => False) (fun _ e _ => e.elim)⟩
    · have hk1 := (List.getElem?_eq_some_iff.1 hk).1
      rw [List.length_append, List.length_singleton] at hk1
      obtain rfl : k = n := by omega
      rw [List.getElem?_append_right (by omega), hl, Nat.sub_self] at hk
      simp only [List.getElem?_cons_zero, Option.some.injEq] at hk
      subst hk
      exact ⟨g, c, hget k _ (by rw [List.getElem?_append_right (by omega), hRl, Nat.sub_self]; rfl), hx⟩

variable {base : Nat} {w : World} {yb gv N : Nat} {L : Nat → List (List UInt8)} {left : Int} {off : Bool} {taken : Int}

set_option maxHeartbeats 400000 in
theorem write_arg (h : RD X base w yb gv N L left off taken) (at_ : Int) (A : Option Addr) (n cap : Nat) (ha : ¬ (0 ≤ at_ ∧ at_ < N) ∨ n ≠ 256) :
    Calls Try.prog 17 #[.pointer (some ⟨yb, 0, none⟩), .int .i64 at_, .slice A n cap] w fun e w' => e = .returned (.int .i64 2) ∧ w = w' := by
  obtain ⟨capv, c0⟩ := h.c0
  clear h
  by_cases h0 : at_ < 0
  · clear ha
    go_enter Try.func17, Try.ntmps17
    go_wp2_with fail
    go_ret
    exact ⟨rfl, rfl⟩
  · have h2 : 0 ≤ at_ := by omega
    by_cases h1 : (N : Int) ≤ at_
    · clear ha h0
      go_enter Try.func17, Try.ntmps17
      go_wp2_with fail
      go_ret
      exact ⟨rfl, rfl⟩
    · have h3 : at_ < N := by omega
      have hne : ((n : Int) != 256) = true := by rw [bne_iff_ne]; omega
      clear ha h0 h1
      go_enter Try.func17, Try.ntmps17
      go_wp2_with fail
      go_ret
      exact ⟨rfl, rfl⟩
set_option maxHeartbeats 400000 in
theorem write_no (h : RD X base w yb gv N L left off taken) (hl : off = true ∨ left = 0) (j : Nat) (hj : j < N) (A : Option Addr) (cap : Nat) :
    Calls Try.prog 17 #[.pointer (some ⟨yb, 0, none⟩), .int .i64 (j : Int), .slice A 256 cap] w fun e w' => e = .returned (.int .i64 10) ∧ RD X base w' yb gv N L left true taken ∧ Fr (Own2 yb gv) w w' := by
  obtain ⟨capv, c0⟩ := h.c0
  have HT := Lib.hid (take_no h hl)
  clear h hl
  go_enter Try.func17, Try.ntmps17
  go_wp2_with fail
  refine HT.out.mono ?_
  rintro e w1 ⟨rfl, hR, hF⟩
  have H0 := Lib.hid (⟨hR, hF.mono (fun i _ e => Or.inl e)⟩ : RD X base w1 yb gv N L left true taken ∧ Fr (Own2 yb gv) w w1)
  clear hR hF
  go_wp2_with fail
  go_ret
  exact ⟨rfl, H0.out.1, H0.out.2⟩

/-- What a write leaves. -/
theorem wrote {w w0 w41 w43 : World} {base0 base1 g39 cap39 g41 c41 gg cap43 n j : Nat} {R : List Value} {x : List UInt8} (hR : RD X base w0 yb gv N L left off taken) (hF0 : Fr (fun i => i = yb) w w0) (hF41 : Fr (fun _ => False) w0 w41) (hB : Byt X w41 g41 x)
    (hO : w41.ownsRow base0 22 1 (.slice (some ⟨g39, 0, none⟩) n cap39) n R) (hg : w0.heap.size ≤ g39) (hRl : R.length = (n : Nat)) (hRg : ∀ (k : Nat) x, (L j)[k]? = some x → ∃ g c, R[k]? = some (.slice (some ⟨g, 0, none⟩) 256 c) ∧ Byt X w0 g x) (hn : (L j).length = n)
    (hown : w43.ownsRow base1 22 1 (.slice (some ⟨gg, 0, none⟩) (n + 1) cap43) (n + 1) (R ++ [.slice (some ⟨g41, 0, none⟩) 256 c41]))
    (hgrow : (w41.alloc (.cells #[.slice (some ⟨g41, 0, none⟩) 256 c41] 22)).grownBy w43 (Value.slice (some ⟨g39, 0, none⟩) n cap39).ownBlock) :
    Fr (fun _ => False) w0 w43 ∧ w43.frozen? ⟨gv, j, none⟩ = false ∧ RD X base (w43.setCell ⟨gv, j, none⟩ (.slice (some ⟨gg, 0, none⟩) (n + 1) cap43)) yb gv N (updL L j (L j ++ [x])) left off taken ∧ Fr (Own2 yb gv) w (w43.setCell ⟨gv, j, none⟩ (.slice (some ⟨gg, 0, none⟩) (n + 1) cap43)) := by
  have hF43 : Fr (fun _ => False) w0 w43 := (hF41.alloc _).grown hgrow (fun k hk => Or.inr (by simp [Value.ownBlock] at hk; omega))
  have hR43 := hR.calm hF43
  have hOa := own_of_fr hO ((Fr.refl (fun _ => False) w41).alloc (.cells #[.slice (some ⟨g41, 0, none⟩) 256 c41] 22)) (fun _ e => e.elim)
  have hFg : Fr (fun i => (Value.slice (some ⟨g39, 0, none⟩) n cap39).ownBlock = some i) (w41.alloc (.cells #[.slice (some ⟨g41, 0, none⟩) 256 c41] 22)) w43 := (Fr.refl _ _).grown hgrow (fun k e => Or.inl e)
  have hBy : Byt X w43 g41 x := (hB.kept ((Fr.refl (fun _ => False) w41).alloc (.cells #[.slice (some ⟨g41, 0, none⟩) 256 c41] 22)) (fun _ e _ => e.elim)).kept hFg (fun i e _ t => t.ne (own_block hOa e).2 (by decide) rfl)
  have hV := rows_snoc hn hRg hRl hF43 hBy hown
  have hP := hR43.put (j := j) (c := cap43) hV
  rw [show (L j ++ [x]).length = n + 1 by rw [List.length_append, hn]; rfl] at hP
  refine ⟨hF43, hR43.freeG j, hP, ?_⟩
  exact (((hF0.mono (fun i _ e => Or.inl e) : Fr (Own2 yb gv) w w0).trans hF43 (fun _ _ e => e.elim)).setCell (p := ⟨gv, j, none⟩) (Or.inl (Or.inr rfl)) _)

set_option maxRecDepth 100000 in
set_option maxHeartbeats 4000000 in
theorem write_ok (h : RD X base w yb gv N L left false taken) (hl : left ≠ 0) (hl0 : -1 ≤ left) (hl1 : left ≤ 9223372036854775807) (ht0 : 0 ≤ taken) (ht1 : taken ≤ 1000000000) (j : Nat) (hj : j < N) (hL : (L j).length ≤ 1000000)
    (A : Option Addr) (cap B : Nat) (x : List UInt8) (hr : Rd w B A x) (hx : x.length = 256) (hB : B ≤ w.heap.size) (hBy : ¬ ∃ o, A = some ⟨yb, o, none⟩) (hA : A = none → cap = 0) (hX : ∀ i, X i → i < w.heap.size) :
    Calls Try.prog 17 #[.pointer (some ⟨yb, 0, none⟩), .int .i64 (j : Int), .slice A 256 cap] w fun e w' => e = .returned (.int .i64 0) ∧ RD X base w' yb gv N (updL L j (L j ++ [x])) (less left) false (taken + 1) ∧ Fr (Own2 yb gv) w w' := by
  obtain ⟨capv0, c00⟩ := h.c0
  have HT := Lib.hid (take_yes h hl hl0 hl1 ht0 ht1)
  have HX := Lib.hid hx
  have HA := Lib.hid hA
  have hr1 : ∀ w', Fr (fun i => i = yb) w w' → Rd w' B A x := fun w' hF hne => by
    obtain ⟨blk, o, e, h1, h2⟩ := hr hne
    exact ⟨blk, o, e, h1, fun k y hy => (World.cell?_of_block (w := w) (w' := w') (hF.block blk (by omega) (fun e2 => hBy ⟨o, by rw [e, e2]⟩))).trans (h2 k y hy)⟩
  have HR1 := Lib.hid hr1
  have hj0 : (0 : Int) ≤ (j : Int) := by omega
  have hj1 : (j : Int) < N := by omega
  clear h hl hl0 hl1 ht0 ht1 hr hx hA hr1 hBy
  go_enter Try.func17, Try.ntmps17
  go_wp2_with fail
  refine HT.out.mono ?_
  rintro e w0 ⟨rfl, hR, hF⟩
  obtain ⟨capv, c0⟩ := hR.c0
  obtain ⟨b, c, hcr, hv⟩ := hR.at_ hj
  obtain ⟨R, hRl, hRg, hRc, hR1⟩ := hv.news
  have hvp := hv.pos
  obtain ⟨i0, hi, hz0, hz1, hz2⟩ := info_parts info1
  have HI := Lib.hid (⟨hi, hz0, hz1, hz2⟩ : _ ∧ _ ∧ _ ∧ _)
  have hyb := hR.tyY.lt
  have hgv := hR.tyG.lt
  have hbl := hv.ty.lt
  have hne := hR.tyG.ne hR.tyY tyU.2.2.2.2
  have hfg := hR.freeG j
  have HRD := Lib.hid hR
  have HF0 := Lib.hid hF
  have HRR := Lib.hid (⟨hRl, hRg, hRc, hR1⟩ : _ ∧ _ ∧ _ ∧ _)
  have HRd := Lib.hid (fun (w' : World) (hw : Fr (fun _ => False) w0 w') => (HR1.out w0 hF).still hw (Nat.le_trans hB hF.size))
  have HSZ := Lib.hid (Nat.le_trans hB hF.size)
  have HXX := Lib.hid (fun i (e : X i) => Nat.lt_of_lt_of_le (hX i e) hF.size)
  have HK := Lib.hid (fun (w' : World) (hw : Fr (fun _ => False) w0 w') => (World.cell?_of_block (w := w0) (w' := w') (a := ⟨yb, 0, none⟩) (hw.block _ hyb id)).trans c0)
  have HK2 := Lib.hid (fun (w' : World) (hw : Fr (fun _ => False) w0 w') => (World.cell?_of_block (w := w0) (w' := w') (a := ⟨gv, j, none⟩) (hw.block _ hgv id)).trans hcr)
  have HRn := Lib.hid (fun (w' : World) (hw : Fr (fun _ => False) w0 w') (k : Nat) (u : Value) (hu : R[k]? = some u) => show w'.cell? ((⟨b, 0, none⟩ : Addr).add k) = some u by rw [add_plain, Nat.zero_add]; exact (World.cell?_of_block (w := w0) (w' := w') (a := ⟨b, k, none⟩) (hw.block _ hbl id)).trans (hRc k u hu))
  clear hX hR hF hRl hRg hRc hR1 hi hz0 hz1 hz2 hv
  obtain ⟨n, hn⟩ : ∃ n, n = (L j).length := ⟨_, rfl⟩
  rw [← hn] at hcr hvp HRR HK2 hL
  have HNL := Lib.hid hn.symm
  clear hn
  have HA0 := Lib.hid (show Fr (fun _ => False) w0 (w0.alloc (.cells #[] 22)).drew from ((Fr.refl _ w0).alloc _).drew)
  go_wp2_with fail
  go_region_law
    (first
      | ((refine step_append_grows (by rfl) (.tmp 31) (.tmp 38) 58 (by rfl) 22 i0 _ 1 24 Try.underlying58 HI.out.1 HI.out.2.1 HI.out.2.2.1 HI.out.2.2.2 rfl (by omega) _ 0 0 [] (by rfl) (by simp) rfl (by simp) ⟨b, 0, none⟩ n c R (by rfl) (by rw [HRR.out.1]; omega) (HRn.out _ HA0.out) HRR.out.2.2.2 (by omega) (by unfold maxLen; omega) (by omega) ?_); intro v39 w39 hown39 hgrow39; have HF39 := Lib.hid (HA0.out.grown hgrow39 (by simp)); rw [Nat.zero_add, List.nil_append] at hown39; obtain ⟨g39, cap39, rfl, hb39, hl39⟩ := World.ownsRow.form hown39 hvp; have HO39 := Lib.hid hown39; have HSB0 := Lib.hid hgrow39.size; have HBG := Lib.hid (show w0.heap.size ≤ g39 from Nat.le_trans (by simp) hb39); have hs39 := HK.out _ HF39.out; have hg39 := HK2.out _ HF39.out; clear hown39 hgrow39 hb39 hl39)
      | (go_simp; go_at_call 40; (refine (sector_any _ _ _ _ _ x (HRd.out _ HF39.out) HX.out (Nat.le_trans HSZ.out HF39.out.size) HA.out (by omega)).mono ?_); rintro e w41 ⟨A41, c41, rfl, ho41, hF41⟩; obtain ⟨g41, rfl, hb41, hby41⟩ := Byt.of_own ho41 HX.out (fun i e => Nat.lt_of_lt_of_le (HXX.out i e) HF39.out.size); rw [HX.out]; have HF41 := Lib.hid (HF39.out.trans hF41 (fun _ _ e => e)); have HB41 := Lib.hid hby41; have HO41 := Lib.hid (own_of_fr HO39.out hF41 (fun _ e => e.elim)); have hs41 := HK.out _ HF41.out; have hyb41 := Nat.lt_of_lt_of_le hyb HF41.out.size; have HSB := Lib.hid (Nat.le_trans HSB0.out hF41.size); clear ho41 hF41 hby41 hb41)
      | ((refine step_append_lies _ (by rfl) (.tmp 39) (.tmp 42) _ (by rfl) _ 22 i0 _ 1 24 Try.underlying58 HI.out.1 HI.out.2.1 HI.out.2.2.1 HI.out.2.2.2 rfl (by omega) _ n R (by rfl) (own_of_fr HO41.out ((Fr.refl (fun _ => False) w41).alloc _) (fun _ e => e.elim)) ⟨w41.heap.size, 0, none⟩ 1 1 [.slice (some ⟨g41, 0, none⟩) 256 c41] (by rfl) (by rfl) (World.news_of_block (cs := #[.slice (some ⟨g41, 0, none⟩) 256 c41]) (t := 22) (fr := (0, 0)) (heap_alloc_new w41 _)) (by simp [Value.oneCell']) (by omega) (by unfold maxLen; omega) (by omega) (Nat.le_trans HSB.out (by simp)) _ rfl ?_); intro gg cap43 w43 hown43 hgrow43 hat43 hlt43; have HW := Lib.hid (wrote HRD.out HF0.out HF41.out HB41.out HO41.out HBG.out HRR.out.1 HRR.out.2.1 HNL.out hown43 hgrow43); have hs43 := HK.out _ HW.out.1; have hc43 := HK2.out _ HW.out.1; have hf43 := HW.out.2.1; clear hown43 hgrow43 hat43 hlt43))
  all_goals
    go_wp2
    go_ret
    exact ⟨rfl, HW.out.2.2.1, HW.out.2.2.2⟩
end
end Go.Proofs.Ytbmbibepcnpngaa.rf
