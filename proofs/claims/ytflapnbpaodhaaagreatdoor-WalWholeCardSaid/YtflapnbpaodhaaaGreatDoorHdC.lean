/-
  The statements' helpers HasInt and ats.
-/
import Derived.Test.YtflapnbpaodhaaaGreatDoorHd7
import Derived.Test.YtflapnbpaodhaaaGreatDoorByI
namespace Go.Proofs.YtflapnbpaodhaaaGreatDoor.hd
set_option maxRecDepth 100000
open Go.RowKit Go.Maps ds
set_option maxRecDepth 100000

set_option maxHeartbeats 1000000 in
theorem hasInt_any (w : World) (A : Option Addr) (cap : Nat) (l : List Int) (z : Int) (hr : RdI w w.heap.size A l) (hb : l.length ≤ 140737488351232) :
    Calls Tryz.prog 28 #[.slice A l.length cap, .int .i64 z] w fun e w' => e = .returned (.bool (decide (z ∈ l))) ∧ Fr (fun _ => False) w w' := by
  obtain ⟨n, hn'⟩ : ∃ n, n = l.length := ⟨_, rfl⟩
  have HLEN := Lib.hid hn'
  have HR := Lib.hid hr
  rw [← hn'] at hb ⊢
  clear hr hn'
  go_enter Tryz.func28, Tryz.ntmps28
  go_wp2_with fail
  go_loopw [5] (fun v wr => ∃ k : Nat, k ≤ n ∧ v = .int .i64 k ∧ Hid (z ∉ l.take k ∧ Fr (fun _ => False) w wr)) (fun v _ => n - (intOf v).toNat)
  case atStart => exact ⟨0, Nat.zero_le _, rfl, (show _ ∧ _ from ⟨by simp, Fr.refl _ _⟩)⟩
  case round =>
    obtain ⟨k, hk, rfl, HK⟩ := hrel
    by_cases hlt : k < n
    · have hkl : k < l.length := by have := HLEN.out; omega
      obtain ⟨x, hx⟩ : ∃ x, l[k]? = some x := ⟨_, List.getElem?_eq_getElem hkl⟩
      obtain ⟨blk, off, rfl, hblk, hc⟩ := HR.out.1 (by rintro rfl; simp at hx)
      have c0 : wr.cell? ⟨blk, off + k, none⟩ = some (.int .i64 x) := (World.cell?_of_block (w := w) (w' := wr) (a := ⟨blk, off + k, none⟩) (HK.out.2.block blk hblk id)).trans (hc k x hx)
      by_cases hxz : x = z
      · subst hxz
        have HM := Lib.hid (List.mem_of_getElem? hx)
        clear hx hkl hc hblk
        go_wp2_with fail
        go_ret
        exact ⟨by rw [decide_eq_true HM.out]; rfl, HK.out.2⟩
      · have HT := Lib.hid (show z ∉ l.take (k + 1) by
          rw [List.take_succ_eq_append_getElem hkl]
          intro hm
          rcases List.mem_append.1 hm with h | h
          · exact HK.out.1 h
          · rw [List.getElem?_eq_getElem hkl] at hx
            obtain rfl : z = l[k] := by simpa using h
            exact hxz (Option.some.inj hx).symm)
        have hne : (x == z) = false := by rw [beq_eq_false_iff_ne]; exact hxz
        clear hx hkl hc hblk hxz
        go_wp2_with fail
        go_roundw
        case rel => exact ⟨k + 1, by omega, by go_num, (show _ ∧ _ from ⟨HT.out, HK.out.2⟩)⟩
        case measure => simp [intOf]; omega
    · obtain rfl : k = n := by omega
      go_wp2_with fail
      go_ret
      have h := HK.out
      rw [List.take_of_length_le (by rw [← HLEN.out]; omega)] at h
      exact ⟨by rw [decide_eq_false h.1]; rfl, h.2⟩

/-- Some sectors of the home, each once. -/
def AtX (N K : Nat) (xs : List Int) : Prop := xs.length = K ∧ xs.Nodup ∧ ∀ x ∈ xs, 8 ≤ x ∧ x < (N : Int)
def AtR (w wr : World) (N K : Nat) (v : Value) : Prop := ∃ xs, AtX N K xs ∧ OwnI wr w.heap.size v xs ∧ Fr (fun _ => False) w wr
theorem AtX.in64 {N K : Nat} {xs : List Int} (h : AtX N K xs) (hN : N ≤ 4096) : ∀ x ∈ xs, -9223372036854775808 ≤ x ∧ x ≤ 9223372036854775807 := fun x hx => by
  have := h.2.2 x hx
  omega
theorem AtX.snoc {N K : Nat} {xs : List Int} (h : AtX N K xs) {y : Int} (h1 : 8 ≤ y) (h2 : y < N) (h3 : y ∉ xs) : AtX N (K + 1) (xs ++ [y]) := by
  refine ⟨by rw [List.length_append, h.1]; rfl, List.nodup_append.2 ⟨h.2.1, by simp, fun a ha b hb e => ?_⟩, fun x hx => ?_⟩
  · obtain rfl : b = y := by simpa using hb
    exact h3 (e ▸ ha)
  · rcases List.mem_append.1 hx with hx | hx
    · exact h.2.2 x hx
    · obtain rfl : x = y := by simpa using hx
      exact ⟨h1, h2⟩
set_option maxHeartbeats 4000000 in
theorem ats_any (w : World) (A : Option Addr) (cap : Nat) (l : List Int) (N : Nat) (hr : RdI w w.heap.size A l) (hb : l.length ≤ 140737488351232) (h9 : 9 ≤ N) (hN : N ≤ 4096) :
    Calls Tryz.prog 9 #[.slice A l.length cap, .int .i64 (N : Int)] w fun e w' => ∃ p K cap' , e = .returned (.slice p K cap') ∧ K ≤ 5 ∧ AtR w w' N K (.slice p K cap') := by
  obtain ⟨i0, hi, hz0, hz1, hz2⟩ := info_parts infoI
  have HI := Lib.hid (⟨hi, hz0, hz1, hz2⟩ : _ ∧ _ ∧ _ ∧ _)
  obtain ⟨n, hn'⟩ : ∃ n, n = l.length := ⟨_, rfl⟩
  have HLEN := Lib.hid hn'
  have HR := Lib.hid hr
  rw [← hn'] at hb ⊢
  have HAM := Lib.hid (fun (w2 : World) (z : Int) => among_nat w2 z (N - 8) (by omega) (by omega))
  rw [show ((N - 8 : Nat) : Int) = (N : Int) - 8 by omega] at HAM
  have H0 : Hid (AtR w (w.alloc (.cells #[] 3)) N 0 (.slice (some ⟨w.heap.size, 0, none⟩) 0 0)) := Lib.hid ⟨[], ⟨rfl, by simp, by simp⟩, ownI_made w [] (by unfold maxLen; simp), (Fr.refl _ w).alloc _⟩
  clear hr hn' hi hz0 hz1 hz2
  go_enter Tryz.func9, Tryz.ntmps9
  go_wp2_with fail
  go_loopw [5, 6] (fun v5 v wr => ∃ k K : Nat, k ≤ n ∧ K ≤ 5 ∧ v = .int .i64 k ∧ ∃ p c, v5 = .slice p K c ∧ Hid (AtR w wr N K (.slice p K c))) (fun _ v _ => n - (intOf v).toNat)
  case atStart => exact ⟨0, 0, Nat.zero_le _, Nat.zero_le _, rfl, _, _, rfl, H0⟩
  case round =>
    obtain ⟨k, K, hk, hK, rfl, p, c, rfl, HK⟩ := hrel
    clear H0
    by_cases hlt : k < n
    · by_cases h5 : K < 5
      · have hkl : k < l.length := by have := HLEN.out; omega
        obtain ⟨x, hx⟩ : ∃ x, l[k]? = some x := ⟨_, List.getElem?_eq_getElem hkl⟩
        obtain ⟨blk, off, rfl, hblk, hc⟩ := HR.out.1 (by rintro rfl; simp at hx)
        obtain ⟨xs, hX, hO, hF⟩ := HK.out
        have c0 : wr.cell? ⟨blk, off + k, none⟩ = some (.int .i64 x) := (World.cell?_of_block (w := w) (w' := wr) (a := ⟨blk, off + k, none⟩) (hF.block blk hblk id)).trans (hc k x hx)
        have HX := Lib.hid (⟨hX, hO, hF⟩ : _ ∧ _ ∧ _)
        have hxl : K = xs.length := hX.1.symm
        have HHI : Hid (∀ z, Calls Tryz.prog 28 #[.slice p K c, .int .i64 z] wr fun e w' => e = .returned (.bool (decide (z ∈ xs))) ∧ Fr (fun _ => False) wr w') := Lib.hid fun z => by
          rw [hxl] at hO ⊢
          exact hasInt_any wr p c xs z (hO.rd (hX.in64 hN)) (by omega)
        have hxK := Lib.hid hxl
        clear hx hkl hc hblk hX hO hF hxl
        go_wp2_with fail
        refine (HAM.out wr x).mono ?_
        rintro e w' ⟨m, hm, rfl, rfl⟩
        obtain ⟨y, hy⟩ : ∃ y : Int, y = 8 + (m : Int) := ⟨_, rfl⟩
        have hy1 : 8 ≤ y := by omega
        have hy2 : y < N := by omega
        have hmi : (m : Int) < N - 8 := by omega
        go_wp2_with fail
        rw [← hy]
        refine (HHI.out y).mono ?_
        rintro e w2 ⟨rfl, hF2⟩
        have HX2 := Lib.hid (⟨HX.out.1, HX.out.2.1.kept hF2, HX.out.2.2.trans hF2 (fun _ _ e => e)⟩ : _ ∧ _ ∧ _)
        clear hF2 HX HHI HK
        by_cases hmem : y ∈ xs
        · rw [decide_eq_true hmem]
          clear hmem hy
          go_wp2_with fail
          go_roundw
          case rel => exact ⟨k + 1, K, by omega, hK, by go_num, _, _, rfl, (show AtR _ _ _ _ _ from ⟨xs, HX2.out⟩)⟩
          case measure => simp [intOf]; omega
        · rw [decide_eq_false hmem]
          have HXY := Lib.hid (HX2.out.1.snoc hy1 hy2 hmem)
          have hown0 : w2.ownsRow w.heap.size 3 1 (.slice p K c) K (is xs) := by have h := HX2.out.2.1; unfold OwnI at h; rw [← hxK.out] at h; exact h
          have HO := Lib.hid hown0
          clear hmem hy hown0
          go_wp2_with (at_builtin; refine wpList_append_own _ rfl (.tmp 32) (.tmp 34) 22 rfl w.heap.size 3 i0 (.int .i64 0) 1 8 Tryz.underlying22 HI.out.1 HI.out.2.1 HI.out.2.2.1 HI.out.2.2.2 rfl (by omega) _ K (is xs) rfl (HO.out.alloc _) ⟨w2.heap.size, 0, none⟩ 1 1 (is [y]) rfl ?c1 ?c2 (is_one _) ?c3 ?c4 ?c5 ?c6)
          case c1 => rfl
          case c2 =>
            intro q u hu
            rw [add_plain]
            have hq : q < 1 := (List.getElem?_eq_some_iff.1 hu).1
            obtain rfl : q = 0 := by omega
            rw [cellAt (heap_alloc_new _ _)]
            exact hu
          case c3 => unfold maxLen; omega
          case c4 => omega
          case c5 => have := HX2.out.2.2.size; simp; omega
          case c6 =>
            intro v' w3 hown hgrow hnil
            have hfr := (HX2.out.2.2.alloc _).grown hgrow (fun j hj => by
              rcases HO.out.2 with ⟨e, _⟩ | ⟨g, cap', cur, e, hg, _⟩
              · rw [e] at hj; cases hj
              · rw [e] at hj; cases hj; exact Or.inr hg)
            obtain ⟨p2, c2, rfl, ho⟩ := OwnI.shape (l := xs ++ [y]) (by rw [List.length_append, ← hxK.out]; rfl) (by rw [is_append]) hown
            have hlen : (xs ++ [y]).length = K + 1 := HXY.out.1
            rw [hlen] at ho ⊢
            have HN := Lib.hid (⟨ho, hfr⟩ : _ ∧ _)
            clear hown hgrow hnil hfr ho hlen
            go_wp2_with fail
            go_roundw
            case rel => exact ⟨k + 1, K + 1, by omega, by omega, by go_num, _, _, rfl, (show AtR _ _ _ _ _ from ⟨xs ++ [y], HXY.out, HN.out⟩)⟩
            case measure => simp [intOf]; omega
      · go_wp2_with fail
        go_ret
        exact ⟨_, _, _, rfl, hK, HK.out⟩
    · go_wp2_with fail
      go_ret
      exact ⟨_, _, _, rfl, hK, HK.out⟩
end Go.Proofs.YtflapnbpaodhaaaGreatDoor.hd
