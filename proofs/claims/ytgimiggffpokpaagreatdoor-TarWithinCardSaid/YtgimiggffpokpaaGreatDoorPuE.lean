/-
  The program's Collect of parts, start, up.
-/
import Derived.Test.YtgimiggffpokpaaGreatDoorPuD
import Derived.WalkSmall
namespace Go.Proofs.YtgimiggffpokpaaGreatDoor.pt
set_option maxRecDepth 100000
open Go.RowKit Go.Maps
set_option maxRecDepth 100000
attribute [local go_sem] Oper.semAt_some

theorem take_pk {l : Tx} {k : Nat} (h : k < (splitB 47 l).length) : (splitB 47 l).take (k + 1) = (splitB 47 l).take k ++ [pkB l k] := by
  rw [List.take_succ_eq_append_getElem h]
  unfold pkB
  rw [List.getElem?_eq_getElem h]
  rfl
/-- A new row of these texts, as a value. -/
def RowS (w : World) (base : Nat) (l : List Tx) (e : Ending) (w' : World) : Prop := ∃ v, e = .returned v ∧ w'.ownsRow base 9 1 v l.length (ss l) ∧ Below w.heap.size w w'
set_option maxHeartbeats 8000000 in
theorem pappend (w : World) (s : ByteArray) (hs : s.size ≤ 1099511627776) (Bs : Nat) (hlt : Bs < w.heap.size) (hc : w.cell? ⟨Bs, 0, none⟩ = some (.string s)) :
    Calls Tryz.prog 124 #[.slice none 0 0, .func (.func 21) #[] #[.pointer (some ⟨Bs, 0, none⟩)]] w (RowS w w.heap.size (splitB 47 s.toList)) := by
  obtain ⟨N, hN⟩ : ∃ N, N = (splitB 47 s.toList).length := ⟨_, rfl⟩
  have HN := Lib.hid hN
  have HFU := Lib.hid (show (splitB 47 s.toList).take N = splitB 47 s.toList by rw [hN]; exact List.take_length)
  obtain ⟨B0, hB0⟩ : ∃ B0, B0 = w.heap.size := ⟨_, rfl⟩
  have b0 := Boxed.new w 37 (.slice none 0 0)
  have hVB : Below w.heap.size w (w.alloc (.cells #[.slice none 0 0] 37)) := (Below.refl _ w).alloc (Nat.le_refl _) _
  have HSEQ : rn.SeqN Fence.wide 2 Tryz.prog 21 #[.pointer (some ⟨Bs, 0, none⟩)] (encP s.toList) N (w.alloc (.cells #[.slice none 0 0] 37)) := by
    rw [hN]
    exact parts_seq 2 (by omega) s hs _ _ (by simp; omega) ((hVB.cell (p := ⟨Bs, 0, none⟩) hlt).trans hc)
  refine (callsIn_wide (n := 3)).1 ?_
  refine callsIn_of_wp_marks Tryz.func124 rfl trivial ?_ rfl
  simp only [Tryz.ntmps124, List.size_toArray, List.length_cons, List.length_nil, Nat.reduceAdd, Nat.reduceSub, Array.replicate_succ, Array.replicate_zero, List.push_toArray, List.append_toArray, List.nil_append, List.cons_append]
  clear hc hlt
  gi_wp2_with fail
  obtain ⟨V, hV⟩ : ∃ V, V = w.alloc (.cells #[.slice none 0 0] 37) := ⟨_, rfl⟩
  have hVs : V.heap.size = w.heap.size + 1 := by rw [hV]; simp
  rw [← hV] at HSEQ b0 hVB ⊢
  rw [← hB0] at b0 ⊢
  have HBS := Lib.hid (show w.heap.size ≤ B0 ∧ w.heap.size ≤ V.heap.size by omega)
  have hB0' := Lib.hid hB0
  clear hV hB0 hVs
  obtain ⟨i0, hi, hz0, hz1, hz2⟩ := info_parts infoS
  refine rn.rangeN rfl (by omega) (gf := 21) (lb := #[.pointer (some ⟨Bs, 0, none⟩)]) rfl trivial (enters_of Tryz.func21 (by kernel_rfl) rfl) HSEQ (Below.refl _ _) (fun _ => rfl)
    (fun k W => (∃ v, Boxed W B0 37 v ∧ W.ownsRow w.heap.size 9 1 v k (ss ((splitB 47 s.toList).take k)) ∧ True) ∧ Below w.heap.size w W)
    (fun _ _ => False)
    (OwnFrom.and (Own.from (holdsRow_own w.heap.size B0 37 9 1 (fun k => k) (fun k => ss ((splitB 47 s.toList).take k)) (fun _ _ => True)) _) (ownFrom_below (Nat.le_refl _) HBS.out.2))
    (fun _ _ _ _ hs _ _ => hs)
    ⟨⟨_, b0, World.ownsRow_nil _ _ _ _, trivial⟩, hVB⟩
    (fun k => { tmps := #[.slice none 0 0, .func (.func 21) #[] #[.pointer (some ⟨Bs, 0, none⟩)], .pointer (some ⟨B0, 0, none⟩), undef, .slice none 0 0, .string (tx (pkB s.toList k)), .func (.func 21) #[] #[.pointer (some ⟨Bs, 0, none⟩)], .string (tx (pkB s.toList k)), undef, undef, undef, undef, undef], defers := [] }) ?assign ?body ?done ?stop
  case assign =>
    intro l k W K hK
    gi_wp2
    exact hK
  case body =>
    rintro l k W hk ⟨⟨v, hv, hrow, -⟩, hB⟩
    have hkk : k < s.size + 1 := by
      have := (split_len (c := 47) (l := s.toList)).2
      rw [toL_len, ← HN.out] at this
      omega
    have HT := Lib.hid (show ss ((splitB 47 s.toList).take (k + 1)) = ss ((splitB 47 s.toList).take k) ++ [.string (tx (pkB s.toList k))] by rw [take_pk (by rw [← HN.out]; exact hk), ss_append]; rfl)
    obtain ⟨X, hX⟩ : ∃ X, X = tx (pkB s.toList k) := ⟨_, rfl⟩
    rw [← hX] at HT ⊢
    have hc := hv.cell
    have HNW := Lib.hid (newsS (W.alloc (.cells #[.string X] 9)) (g := W.heap.size) (x := X) (heap_alloc_new W _))
    clear hX hN
    gi_wp2_with (gi_at_builtin; refine wpListIn_append_own _ rfl _ _ 37 rfl w.heap.size 9 i0 zeroS 1 16 Tryz.underlying37 hi hz0 hz1 hz2 rfl (by decide) v k _ rfl (hrow.alloc _) ⟨W.heap.size, 0, none⟩ 1 1 [.string X] rfl rfl HNW.out (oneS _) (by unfold maxLen; omega) (by omega) (by have := hB.size; simp; omega) ?_; intro v' w1 hown' hgrow _; obtain ⟨g', cap', rfl⟩ := ownsRow_succ hown'; obtain ⟨hv1, hv2, hr2, hk2, hb2⟩ := hv.appended (by decide) hrow hB.size HBS.out.1 hown' hgrow; have hc1 := hv1.cell; have hf1 := hv1.frozen)
    exact ⟨hk2.from _, ⟨_, hv2, by rw [HT.out]; exact hr2, trivial⟩, hB.trans hb2⟩
  case done =>
    rintro D W hD ⟨⟨v, hv, hrow, -⟩, hB⟩ hK
    have c0 := hv.cell
    have hD2 : w.heap.size ≤ D := Nat.le_trans HBS.out.2 hD
    have HR := Lib.hid hrow
    have HBB := Lib.hid hB
    clear hv hrow hB hN
    gi_wp2
    refine ⟨by simp, .inl ⟨_, _, rfl, run_takeDeferred hK, ?_⟩⟩
    refine ⟨_, results_tmp rfl _ _ _, v, rfl, ?_, HBB.out.trans (belowK_b (w := w) (Nat.le_refl _) _ D _ _ hD2 hK rfl rfl)⟩
    have h := ownsRow_putObj HR.out (.deferred none) hK rfl
    rw [HFU.out] at h
    rw [← HN.out]
    exact h
  case stop =>
    rintro D k W _ _ h _
    exact h.elim
set_option maxHeartbeats 1000000 in
theorem pcollect (w : World) (s : ByteArray) (hs : s.size ≤ 1099511627776) (Bs : Nat) (hlt : Bs < w.heap.size) (hc : w.cell? ⟨Bs, 0, none⟩ = some (.string s)) :
    Calls Tryz.prog 98 #[.func (.func 21) #[] #[.pointer (some ⟨Bs, 0, none⟩)]] w (RowS w w.heap.size (splitB 47 s.toList)) := by
  have H := Lib.hid (pappend w s hs Bs hlt hc)
  clear hlt hc
  go_enter Tryz.func98, Tryz.ntmps98
  go_wp2_with fail
  refine H.out.mono ?_
  rintro e w' ⟨v, rfl, h1, h2⟩
  have HH := Lib.hid (⟨h1, h2⟩ : _ ∧ _)
  clear h1 h2
  go_wp2_with fail
  go_ret
  exact ⟨v, rfl, HH.out.1, HH.out.2⟩
set_option maxHeartbeats 2000000 in
/-- up: the last one off, the room kept. -/
theorem pup (w : World) (g n cap : Nat) (hn : n + 1 ≤ cap) (hc : cap ≤ 9223372036854775807) : Calls Tryz.prog 97 #[.slice (some ⟨g, 0, none⟩) (n + 1) cap] w fun e w' => e = .returned (.slice (some ⟨g, 0, none⟩) n cap) ∧ w = w' := by
  obtain ⟨m, hm⟩ : ∃ m, m = n + 1 := ⟨_, rfl⟩
  rw [← hm] at hn ⊢
  have h1 : IntKind.i64.wrap ((m : Int) - 1) = (n : Int) := by rw [IntKind.wrap_i64]; omega
  have h2 : (m : Int) - 1 = (n : Int) := by omega
  have h3 : (n : Int) ≤ cap := by omega
  have h4 : (0 : Int) ≤ n := by omega
  have h5 : n ≤ cap := by omega
  have h6 : IntKind.i64.wrap (n : Int) = (n : Int) := by rw [IntKind.wrap_i64]; omega
  clear hm
  go_enter Tryz.func97, Tryz.ntmps97
  go_wp2_with fail
  go_ret
  exact ⟨rfl, rfl⟩
end Go.Proofs.YtgimiggffpokpaaGreatDoor.pt
