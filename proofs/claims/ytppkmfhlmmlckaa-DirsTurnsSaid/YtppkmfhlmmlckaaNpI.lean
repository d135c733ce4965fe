/-
  The program's Print.
-/
import Derived.Test.YtppkmfhlmmlckaaNpG
import Derived.Test.YtppkmfhlmmlckaaNmT
import Derived.Deep.AppendLies
namespace Go.Proofs.Ytppkmfhlmmlckaa.nm
set_option maxRecDepth 100000
open Go.RowKit Go.Maps
set_option maxRecDepth 100000

set_option maxHeartbeats 4000000 in
theorem pprint (w : World) (A : Option Addr) (cap : Nat) (l : List Nm) (hl : In w A cap l) :
    Calls Try.prog 12 #[.slice A l.length cap] w (AnsW w l) := by
  obtain ⟨n, hn⟩ : ∃ n, n = l.length := ⟨_, rfl⟩
  have hn5 : n ≤ 5864062014805 := by rw [hn]; exact hl.len
  have hcn : n ≤ cap := by rw [hn]; exact hl.cap
  have HL := Lib.hid hl
  have HN := Lib.hid hn
  rw [← hn]
  clear hl hn
  obtain ⟨i0, hi, hz0, hz1, hz2⟩ := info_parts infoB
  have HI := Lib.hid (⟨hi, hz0, hz1, hz2⟩ : _ ∧ _ ∧ _ ∧ _)
  clear hi hz0 hz1 hz2
  go_enter Try.func12, Try.ntmps12
  go_wp2_with fail
  go_loopw [4, 11] (fun v4 i wr => ∃ k m : Nat, k ≤ n ∧ i = .int .i64 k ∧ m ≤ 35 * k ∧ k ≤ 256 ∧ (∃ A c, v4 = .slice A m c) ∧ Hid (m = (prL (l.take k)).length ∧ Own wr w.heap.size v4 (prL (l.take k)) ∧ Fr (fun _ => False) w wr ∧ FolTo l k)) (fun _ i _ => n - (intOf i).toNat)
  case atStart => exact ⟨0, 0, Nat.zero_le _, rfl, Nat.le_refl _, by omega, ⟨none, 0, rfl⟩, (show _ ∧ _ from ⟨rfl, ⟨rfl, Or.inl ⟨rfl, rfl⟩⟩, Fr.refl _ _, FolTo.zero l⟩)⟩
  case round =>
    obtain ⟨k, m, hk, rfl, hm, hk256, ⟨Ao, co, rfl⟩, HK⟩ := hrel
    by_cases hlt : k < n
    · obtain ⟨x, hx⟩ : ∃ x, l[k]? = some x := ⟨_, List.getElem?_eq_getElem (by have := HN.out; omega)⟩
      obtain ⟨b, o, rfl, hb1, p0, p1⟩ := (rdN_fr HL.out.rd HK.out.2.2.1).at_ hx
      have hwf := (HL.out.rd.wf x (List.mem_of_getElem? hx)).1
      obtain ⟨xs, xi⟩ := x
      have HX := Lib.hid hx
      have hkc : k ≤ cap := by omega
      have hk0 : (0 : Int) ≤ k := by omega
      have HT := Lib.hid (show (l.take k).length = k by rw [List.length_take, ← HN.out]; omega)
      have HFO : Hid (∀ w2, Fr (fun _ => False) wr w2 → Calls Try.prog 26 #[.slice (some ⟨b, o, none⟩) k cap, .agg #[.string xs, .int .i64 xi]] w2 fun e w' => e = .returned (.bool (folB (l.take k) (xs, xi))) ∧ Fr (fun _ => False) w2 w') := Lib.hid fun w2 hF => by
        have h := pfollows w2 (some ⟨b, o, none⟩) cap (l.take k) (xs, xi) (take_rd (rdN_fr HL.out.rd (HK.out.2.2.1.trans hF (fun _ _ e => e))) k) (by rw [HT.out]; omega) hwf
        rwa [HT.out] at h
      clear hx hb1 hwf
      have HFx := Lib.hid ((Fr.refl (fun _ => False) wr).alloc (objX xs xi))
      have c0 : (wr.alloc (objX xs xi)).cell? ⟨wr.heap.size, 0, none⟩ = some (.string xs) := (cellAt (heap_alloc_new wr _) 0).trans rfl
      have c1 : (wr.alloc (objX xs xi)).cell? ⟨wr.heap.size, 1, none⟩ = some (.int .i64 xi) := (cellAt (heap_alloc_new wr _) 1).trans rfl
      cases hfo : folB (l.take k) (xs, xi) with
      | false =>
        rw [hfo] at HFO
        have HNR := Lib.hid (FolTo.not HX.out hfo)
        clear hfo
        go_wp2_with fail
        go_region_with (go_at_call 26; refine (HFO.out _ HFx.out.drew).mono ?_; rintro e w2 ⟨rfl, hF2⟩)
        have HF2 := Lib.hid ((HK.out.2.2.1.trans HFx.out.drew (fun _ _ e => e)).trans hF2 (fun _ _ e => e))
        clear hF2 p0 p1 c0 c1
        go_wp2
        go_ret2
        exact Or.inr ⟨HNR.out, none, 0, rfl, HF2.out⟩
      | true =>
        rw [hfo] at HFO
        have HNX := Lib.hid (HK.out.2.2.2.next HX.out hfo)
        obtain ⟨_, hit, _⟩ := (folB_iff _ _).1 hfo
        have hn1 : nmB xs = true := (Bool.and_eq_true_iff.1 hit).1
        have hi1 : inB xi = true := (Bool.and_eq_true_iff.1 hit).2
        have hsz : xs.size ≤ 32 := by
          unfold nmB at hn1
          simp at hn1
          omega
        have hxi : 0 ≤ xi ∧ xi ≤ 65535 := by
          unfold inB at hi1
          simpa using hi1
        obtain ⟨N, rfl⟩ : ∃ N : Nat, xi = (N : Int) := ⟨xi.toNat, by omega⟩
        clear hfo hit hn1 hi1
        go_wp2_with fail
        go_region_with (go_at_call 26; refine (HFO.out _ HFx.out.drew).mono ?_; rintro e w2 ⟨rfl, hF2⟩)
        have hF2' := HFx.out.drew.trans hF2 (fun _ _ e => e)
        have hb2 : w2.heap[wr.heap.size]? = some (.cells #[.string xs, .int .i64 (N : Int)] 41 (0, 0)) := fr_keep (w := (wr.alloc (objX xs (N : Int))).drew) (heap_alloc_new wr (objX xs (N : Int))) hF2
        have hg2 : wr.heap.size < w2.heap.size := (Array.getElem?_eq_some_iff.1 hb2).1
        obtain ⟨g0, hg0⟩ : ∃ g0, g0 = wr.heap.size := ⟨_, rfl⟩
        rw [← hg0] at hb2 hg2 ⊢
        have H2 := Lib.hid (⟨hF2', hb2, hg2, hg0⟩ : _ ∧ _ ∧ _ ∧ _)
        have d0 : (w2.drew.alloc (.cells #[.int .u8 0, .int .u8 0] 5)).cell? ⟨g0, 1, none⟩ = some (.int .i64 (N : Int)) := (cellAt (fr_keep hb2 (((Fr.refl (fun _ => False) w2).drew).alloc _)) 1).trans rfl
        have d1 : w2.cell? ⟨g0, 1, none⟩ = some (.int .i64 (N : Int)) := (cellAt hb2 1).trans rfl
        clear hF2 hF2' hb2 hg2 hg0 p0 p1 c0 c1
        have e0 : ((w2.alloc (.cells #[.int .u8 0, .int .u8 0] 5)).drew).cell? ⟨g0, 1, none⟩ = some (.int .i64 (N : Int)) := d0
        have HPU : Hid (Calls Try.prog 29 #[.slice (some ⟨w2.heap.size, 0, none⟩) 2 2, .int .i64 0, .int .i64 2, .int .i64 (N : Int)] ((w2.alloc (.cells #[.int .u8 0, .int .u8 0] 5)).drew) (NewB2 ((w2.alloc (.cells #[.int .u8 0, .int .u8 0] 5)).drew) (putL [0, 0] 0 N 2))) := Lib.hid (by
          refine put_ok ((w2.alloc (.cells #[.int .u8 0, .int .u8 0] 5)).drew) (some ⟨w2.heap.size, 0, none⟩) 2 2 ((w2.alloc (.cells #[.int .u8 0, .int .u8 0] 5)).drew).heap.size 0 2 N [0, 0] (fun _ => ⟨w2.heap.size, 0, rfl, ?_, fun j y hj => ?_⟩) rfl (Nat.le_refl _) (fun e => by cases e) (by omega) (by omega) (by omega) (by omega) (goes_in (by omega))
          · show w2.heap.size < (w2.alloc _).heap.size
            rw [World.size_alloc]
            omega
          · show (w2.alloc _).cell? _ = _
            rw [cellAt (heap_alloc_new _ _), Nat.zero_add]
            rcases j with _ | _ | j
            · simp at hj; subst hj; rfl
            · simp at hj; subst hj; rfl
            · simp at hj)
        have hmk : ∀ wx : World, (Instr.makeSlice 22 (.int .i64 2) (.int .i64 2)).run Try.prog wx = .ok (.slice (some ⟨wx.heap.size, 0, none⟩) 2 2) (wx.alloc (.cells #[.int .u8 0, .int .u8 0] 5)) := fun wx => run_make_bytes 2 (by omega) wx
        go_wp2_with fail
        go_region_with (go_at_call 29; refine HPU.out.mono ?_; rintro e w5 ⟨A6, c6, rfl, ho6, ha6, hF6⟩)
        all_goals
          have hlen6 : (putL [0, 0] 0 N 2).length = 2 := by rw [putL_length]; rfl
          rw [hlen6] at ho6 ⊢
          obtain ⟨g6, cap6, cur6, hA6, hg6, hb6, hr6⟩ : ∃ g cap cur, (Value.slice A6 2 c6) = .slice (some ⟨g, 0, none⟩) 2 cap ∧ ((w2.alloc (.cells #[.int .u8 0, .int .u8 0] 5)).drew).heap.size ≤ g ∧ w5.heap[g]? = some (.cells cur 5 (0, 0)) ∧ True := by
            rcases ho6.2 with ⟨e, _⟩ | ⟨g, c', cur, e, hg, hh, _⟩
            · cases e
            · exact ⟨g, c', cur, e, hg, hh, trivial⟩
          cases hA6
          have hsz2 : ((w2.alloc (.cells #[.int .u8 0, .int .u8 0] 5)).drew).heap.size = w2.heap.size + 1 := World.size_alloc w2 _
          have hF25 : Fr (fun _ => False) w2 w5 := (((Fr.refl (fun _ => False) w2).alloc _).drew).trans hF6 (fun _ _ e => e)
          have hFr5 := H2.out.1.trans hF25 (fun _ _ e => e)
          have hrow : w5.ownsRow w.heap.size 5 1 (.slice Ao m co) m (bs (prL (l.take k))) := by
            have h := HK.out.2.1.kept hFr5
            unfold Own at h
            rw [← HK.out.1] at h
            exact h
          have hq : ∀ q, (Value.slice Ao m co).ownBlock = some q → q < wr.heap.size := fun q e => by
            rcases HK.out.2.1.2 with ⟨e', _⟩ | ⟨g, c', cur, e', hg, hh, _⟩
            · rw [e'] at e; cases e
            · rw [e'] at e; cases e
              exact (Array.getElem?_eq_some_iff.1 hh).1
          have hb05 : w5.heap[g0]? = some (.cells #[.string xs, .int .i64 (N : Int)] 41 (0, 0)) := fr_keep H2.out.2.1 hF25
          have hsrc : ∀ w' : World, w'.heap[g6]? = some (.cells cur6 5 (0, 0)) → ∀ j u, (bs (putL [0, 0] 0 N 2))[j]? = some u → w'.cell? ((⟨g6, 0, none⟩ : Addr).add j) = some u := fun w' h2 j u hu => by
            have hrd6 : Rd w5 w5.heap.size (some ⟨g6, 0, none⟩) (putL [0, 0] 0 N 2) := by
              have h6 := ho6
              rw [← hlen6] at h6
              exact Own.rd (cap := c6) h6
            have h5 := src_own hrd6 j u hu
            rw [add_plain] at h5 ⊢
            rw [← h5]
            exact World.cell?_of_block (w := w5) (w' := w') (a := ⟨g6, 0 + j, none⟩) (h2.trans hb6.symm)
          have hg6lt := (Array.getElem?_eq_some_iff.1 hb6).1
          have hg0lt := H2.out.2.2.1
          have hg0e := H2.out.2.2.2
          have H5 := Lib.hid (⟨hrow, HK.out.2.2.1.trans hFr5 (fun _ _ e => e), hb6, hb05, hsrc, (by omega : wr.heap.size < g6), hg6lt, hq, hlen6, (by have := hF25.size; omega : g0 < w5.heap.size)⟩ : _ ∧ _ ∧ _ ∧ _ ∧ _ ∧ _ ∧ _ ∧ _ ∧ _ ∧ _)
          have hG0 := Lib.hid hg0e
          have q0 : w5.cell? ⟨g0, 0, none⟩ = some (.string xs) := (cellAt hb05 0).trans rfl
          have hu := u8_len xs.size
          obtain ⟨lc, hlc⟩ : ∃ lc, lc = UInt8.ofNat xs.size := ⟨_, rfl⟩
          have HLC := Lib.hid hlc
          rw [← hlc] at hu
          have HC7 : Hid (∀ (g7 cap7 : Nat) (w7 : World), w7.ownsRow w.heap.size 5 1 (.slice (some ⟨g7, 0, none⟩) (m + 1) cap7) (m + 1) (bs (prL (l.take k)) ++ [.int .u8 (lc.toNat : Int)]) → (w5.alloc (.cells #[.int .u8 (lc.toNat : Int)] 5)).grownBy w7 (Value.slice Ao m co).ownBlock → ((Value.slice Ao m co).ownBlock = some g7 ∨ g7 = (w5.alloc (.cells #[.int .u8 (lc.toNat : Int)] 5)).heap.size) → (w7.ownsRow w.heap.size 5 1 (.slice (some ⟨g7, 0, none⟩) (m + 1) cap7) (m + 1) (bs (prL (l.take k)) ++ [.int .u8 (lc.toNat : Int)]) ∧ Fr (fun _ => False) w w7 ∧ w7.heap[g6]? = some (.cells cur6 5 (0, 0)) ∧ g7 ≠ g6) ∧ w7.cell? ⟨g0, 0, none⟩ = some (.string xs)) := Lib.hid fun g7 cap7 w7 hown7 hg7 hl7 =>
            ⟨⟨hown7, (H5.out.2.1.alloc _).grown hg7 (fun q e => own_geB H5.out.1 e), grown_keep (fr_keep H5.out.2.2.1 ((Fr.refl (fun _ => False) w5).alloc _)) hg7 (fun e => by have := H5.out.2.2.2.2.2.2.2.1 _ e; have := H5.out.2.2.2.2.2.1; omega), (by
            rcases hl7 with e | e
            · have := H5.out.2.2.2.2.2.2.2.1 _ e; have := H5.out.2.2.2.2.2.1; omega
            · have h1 : g7 = w5.heap.size + 1 := e.trans (World.size_alloc w5 _)
              have := H5.out.2.2.2.2.2.2.1; omega)⟩, (cellAt (grown_keep (fr_keep H5.out.2.2.2.1 ((Fr.refl (fun _ => False) w5).alloc _)) hg7 (fun e => by have := H5.out.2.2.2.2.2.2.2.1 _ e; have := hG0.out; omega)) 0).trans rfl⟩
          clear ho6 ha6 hF6 hg6 hb6 hr6 hsz2 hF25 hFr5 hrow hq hb05 hsrc hg6lt hg0lt hg0e hlc d0 d1 e0 hmk hlen6 HPU
          go_wp2_with (at_builtin; first
            | (refine wpList_append_lies _ rfl (.tmp 29) (.tmp 34) 22 rfl w.heap.size 5 i0 (.int .u8 0) 1 1 Try.underlying22 HI.out.1 HI.out.2.1 HI.out.2.2.1 HI.out.2.2.2 rfl (by omega) _ m (bs (prL (l.take k))) rfl (World.ownsRow.alloc H5.out.1 _) ⟨w5.heap.size, 0, none⟩ 1 1 [.int .u8 (lc.toNat : Int)] rfl rfl (World.news_of_block (heap_alloc_new w5 _)) (by intro u hu; simp at hu; subst hu; rfl) (by omega) (by unfold maxLen; omega) (by omega) (H5.out.2.1.alloc _).size _ rfl ?_; intro g7 cap7 w7 hown7 hg7 hl7 hlt7; have c7 := (HC7.out g7 cap7 w7 hown7 hg7 hl7).2; have H7 := Lib.hid (HC7.out g7 cap7 w7 hown7 hg7 hl7).1; clear hown7 hg7 hl7 hlt7)
            | (refine Go.Lib.wpList_append_own_string _ rfl (.tmp 36) (.tmp 38) 22 9 rfl w.heap.size 5 i0 Try.underlying22 Try.underlying9 HI.out.1 HI.out.2.1 HI.out.2.2.1 HI.out.2.2.2 _ (m + 1) _ rfl H7.out.1 xs rfl (by unfold maxLen; omega) (by omega) H7.out.2.1.size ?_; intro v8 w8 hown8 hg8 _; have H8 : Hid (w8.ownsRow w.heap.size 5 1 v8 (m + 1 + xs.size) (bs (prL (l.take k)) ++ [.int .u8 (lc.toNat : Int)] ++ Go.Lib.strCells xs) ∧ Fr (fun _ => False) w w8 ∧ w8.heap[g6]? = some (.cells cur6 5 (0, 0))) := Lib.hid ⟨hown8, H7.out.2.1.grown hg8 (fun q e => own_geB H7.out.1 e), grown_keep H7.out.2.2.1 hg8 (fun e => H7.out.2.2.2 (Option.some.inj e))⟩; clear hown8 hg8)
            | (refine wpList_append_own _ rfl (.tmp 39) (.tmp 40) 22 rfl w.heap.size 5 i0 (.int .u8 0) 1 1 Try.underlying22 HI.out.1 HI.out.2.1 HI.out.2.2.1 HI.out.2.2.2 rfl (by omega) _ (m + 1 + xs.size) _ rfl H8.out.1 ⟨g6, 0, none⟩ 2 _ (bs (putL [0, 0] 0 N 2)) rfl (by rw [bs_length, H5.out.2.2.2.2.2.2.2.2.1]) (H5.out.2.2.2.2.1 _ H8.out.2.2) (bs_one _) (by unfold maxLen; omega) (by omega) H8.out.2.1.size ?_; intro v9 w9 hown9 hg9 _))
          have HPL := prL_next HX.out
          have hlen : (prL (l.take (k + 1))).length = m + 1 + xs.size + 2 := by
            rw [HPL, List.length_append, ← HK.out.1]
            unfold enB
            have h1 := H5.out.2.2.2.2.2.2.2.2.1
            have h2 := toL_length xs
            have h3 : ((xs, (N : Int)).2).toNat = N := rfl
            rw [List.length_cons, List.length_append, h3, h1]
            show m + (xs.toList.length + 2 + 1) = _
            omega
          obtain ⟨A9, c9, e9, ho9⟩ := fin_pr HPL hlen.symm (by
            unfold enB
            rw [bs_append, strCells_bs, HLC.out, show ((N : Int)).toNat = N from rfl]
            show _ = bs _ ++ bs (_ :: (_ ++ _))
            simp [bs]) hown9
          rw [hlen] at e9 ho9
          subst e9
          have hlt256 := HNX.out.2
          have HEE := Lib.hid (⟨hlen.symm, ho9, H8.out.2.1.grown hg9 (fun q e => own_geB H8.out.1 e), HNX.out⟩ : _ ∧ _ ∧ _ ∧ _)
          clear hlen ho9 hown9 hg9 HPL
          go_wp2_with fail
          go_roundw
          case rel => exact ⟨k + 1, m + 1 + xs.size + 2, by omega, by go_num, by omega, by omega, ⟨_, _, rfl⟩, (show _ ∧ _ from HEE.out)⟩
          case measure => simp [intOf]; omega
    · obtain rfl : k = n := by omega
      have HE := HK.out
      rw [List.take_of_length_le (by rw [← HN.out]; exact Nat.le_refl _)] at HE
      have HE2 := Lib.hid HE
      clear HE HK
      go_wp2_with fail
      go_ret2
      obtain ⟨e1, e2, e3, e4⟩ := HE2.out
      subst e1
      exact Or.inl ⟨(by have h := e4; rw [HN.out] at h; exact h.right), Ao, co, rfl, e2, (own_cap e2).1, (own_cap e2).2, e3⟩
end Go.Proofs.Ytppkmfhlmmlckaa.nm
