/-
  The document's Read.
-/
import Derived.Test.YtnibbopdjeagoaaCdC
import Derived.Maps.AppendAt
namespace Go.Proofs.Ytnibbopdjeagoaa.cd
set_option maxRecDepth 100000
open Go.RowKit Go.Maps Go.Proofs.Ytnibbopdjeagoaa.fl
set_option maxRecDepth 100000

theorem take_one {B : List Int} {p : Nat} {x : Int} (h : B[p]? = some x) : takeV B p 1 = (x, 0) ∧ takeA B p 1 = p + 1 := by
  obtain ⟨h1, h2⟩ := List.getElem?_eq_some_iff.1 h
  have ht := takeV_in (L := B) (p := p) (n := 1) (by omega)
  rw [if_neg (by omega), if_neg (by omega)] at ht
  refine ⟨ht.1.trans ?_, ht.2⟩
  rw [List.drop_eq_getElem_cons h1, h2]
  simp [numI]
theorem take_end {B : List Int} {p : Nat} (h : B[p]? = none) (hp : p ≤ B.length) : takeV B p 1 = (0, 7) ∧ takeA B p 1 = p := by
  have h1 := List.getElem?_eq_none_iff.1 h
  have ht := takeV_in (L := B) (p := p) (n := 1) (by omega)
  rw [if_pos (by omega), if_pos (by omega)] at ht
  exact ht
theorem find_step {W : List (List Int)} {got r : List Int} {i : Nat} (hi : W[i]? = some r) (h : findW (W.take i) got = none) (hn : isW got r = false) : findW (W.take (i + 1)) got = none := by
  unfold findW at *
  rw [List.findIdx?_eq_none_iff] at *
  intro x hx
  rw [List.take_add_one, hi] at hx
  rcases List.mem_append.1 hx with hx | hx
  · exact h x hx
  · have e : x = r := by simpa using hx
    rw [e]
    exact hn
theorem find_here {W : List (List Int)} {got r : List Int} {i : Nat} (hi : W[i]? = some r) (h : findW (W.take i) got = none) (hn : isW got r = true) : findW W got = some i := by
  unfold findW at *
  rw [List.findIdx?_eq_none_iff] at h
  obtain ⟨h1, h2⟩ := List.getElem?_eq_some_iff.1 hi
  refine List.findIdx?_eq_some_iff_getElem.2 ⟨h1, by rw [h2]; exact hn, fun j hj => ?_⟩
  have hm : W[j] ∈ W.take i := List.mem_of_getElem? (i := j) (by rw [List.getElem?_take, if_pos hj]; exact List.getElem?_eq_getElem (by omega))
  rw [h _ hm]
  simp
def lenOf : Value → Nat
  | .slice _ n _ => n
  | _ => 0
theorem isW_nil (got : List Int) : isW got [] = false := rfl
theorem isW_some {got r : List Int} (h : 0 < r.length) : isW got r = decide (r = got) := by
  unfold isW
  cases r with
  | nil => simp at h
  | cons _ _ => rfl
/-- A row of the call's own stays, whatever turns ahead of it. -/
theorem own_past {w w' : World} {base : Nat} {v : Value} {n : Nat} {xs : List Value} {S : Nat → Prop} (h : w.ownsRow base 3 1 v n xs) (hF : Fr S w w') (hS : ∀ i, base ≤ i → ¬ S i) : w'.ownsRow base 3 1 v n xs := by
  obtain ⟨h1, h2⟩ := h
  refine ⟨h1, ?_⟩
  rcases h2 with h2 | ⟨g, cap, cur, hv, hg, hh, r⟩
  · exact Or.inl h2
  · exact Or.inr ⟨g, cap, cur, hv, hg, (hF.block g (Array.getElem?_eq_some_iff.1 hh).1 (hS g hg)).trans hh, r⟩
theorem snocS {w0 w w' : World} {S : Nat → Prop} {p : Option Addr} {m c : Nat} {L : List Int} {x : Int} {v : Value} (hm : m = L.length) (ho : w.ownsRow w0.heap.size 3 1 (.slice p m c) m (is L)) (hF : Fr S w0 w)
    (hown : w'.ownsRow w0.heap.size 3 1 v (m + 1) (is L ++ [.int .i64 x])) (hg : w.grownBy w' (Value.slice p m c).ownBlock) : ∃ p' c', v = .slice p' (m + 1) c' ∧ m + 1 = (L ++ [x]).length ∧ w'.ownsRow w0.heap.size 3 1 (.slice p' (m + 1) c') (m + 1) (is (L ++ [x])) ∧ Fr S w0 w' := by
  have hl : m + 1 = (L ++ [x]).length := by rw [List.length_append, ← hm]; rfl
  obtain ⟨p', c', e, h⟩ := OwnI.shape (l := L ++ [x]) hl (by rw [is_append]; rfl) hown
  rw [← hl] at e h
  unfold OwnI at h
  rw [← hl] at h
  exact ⟨p', c', e, hl, h, hF.grown hg (fun q e => (own_geI ho e).imp (fun h => h.elim) id)⟩
/-- What an append turns of what lies ahead of the call. -/
theorem yr_grown {w w' : World} {lo yb at_ base : Nat} {L : List Int} {v : Value} {n : Nat} {xs : List Value} (h : YR w lo yb L at_) (ho : w.ownsRow base 3 1 v n xs) (hg : w.grownBy w' v.ownBlock) (hb : yb < base) (hlo : lo ≤ yb) : YR w' lo yb L at_ := by
  have hF : Fr (fun i => base ≤ i) w w' := (Fr.refl _ w).grown hg (fun k e => Or.inl (by
    rcases ho.2 with ⟨rfl, _⟩ | ⟨g, cap, cur, rfl, hg2, _⟩
    · cases e
    · cases e
      exact hg2))
  exact h.kept hF (fun i _ a e => by omega) hlo

set_option maxHeartbeats 4000000 in
theorem rread (w : World) (wl wh lo yb at_ cap : Nat) (A : Option Addr) (W : List (List Int)) (B : List Int) (hW : RdW w wl wh A W) (hl : W.length ≤ 1000) (hw : ∀ r ∈ W, r.length ≤ 15 ∧ AllBit r) (hY : YR w lo yb B at_) (hlo : lo ≤ yb) (hwh : wh ≤ lo) :
    Calls Try.prog 25 #[.slice A W.length cap, .pointer (some ⟨yb, 0, none⟩)] w fun e w' => e = .returned (.tuple #[.int .i64 ((rdW W B (mostW W) [] at_).1 : Nat), .int .i64 (rdW W B (mostW W) [] at_).2.1]) ∧ YR w' lo yb B (rdW W B (mostW W) [] at_).2.2 ∧ Fr (fun i => i = yb) w w' := by
  obtain ⟨A0, cap0, hyb, -, -⟩ := id hY.cell
  have hlt := (Array.getElem?_eq_some_iff.1 hyb).1
  obtain ⟨n, hn⟩ : ∃ n, n = W.length := ⟨_, rfl⟩
  obtain ⟨w1, hw1⟩ : ∃ w1, w1 = w.alloc (.cells #[] 3) := ⟨_, rfl⟩
  have hF1 : Fr (fun _ => False) w w1 := by rw [hw1]; exact (Fr.refl _ w).alloc _
  have HLG := Lib.hid (rlongest w1 wl wh A cap W (hW.still hF1 (by omega)) hl (fun r hr => (hw r hr).1))
  have HR := Lib.hid (⟨hW, hn, hw, hlo, hwh, hlt⟩ : _ ∧ _ ∧ _ ∧ _ ∧ _ ∧ _)
  obtain ⟨Lg, hLg⟩ : ∃ Lg, Lg = longW W := ⟨_, rfl⟩
  have hL15 : Lg ≤ 15 := by rw [hLg]; exact long_le (fun r hr => (hw r hr).1)
  obtain ⟨M, hM⟩ : ∃ M, M = mostW W := ⟨_, rfl⟩
  have hcase : ((1 < Lg ∧ (1 : Int) < Lg) ∧ M = Lg) ∨ ((¬ 1 < Lg ∧ ¬ (1 : Int) < Lg) ∧ M = 1) := by
    unfold mostW at hM
    omega
  obtain ⟨res, hres⟩ : ∃ res, res = rdW W B M [] at_ := ⟨_, rfl⟩
  rw [← hM, ← hres, ← hn]
  rw [← hn] at hl
  rw [← hLg, ← hn] at HLG
  obtain ⟨i0, hi, hz0, hz1, hz2⟩ := info_parts infoI
  have HI := Lib.hid (⟨hi, hz0, hz1, hz2⟩ : _ ∧ _ ∧ _ ∧ _)
  have H0 := Lib.hid (⟨by rw [hw1]; exact ownI_nil w, hY.kept hF1 (fun _ _ _ e => e) hlo, by rw [hw1]; exact (Fr.refl (fun i => i = yb) w).alloc _, hres⟩ : w1.ownsRow w.heap.size 3 1 (.slice (some ⟨w.heap.size, 0, none⟩) 0 0) 0 (is []) ∧ YR w1 lo yb B at_ ∧ Fr (fun i => i = yb) w w1 ∧ res = rdW W B M [] at_)
  have HW1 := Lib.hid hw1.symm
  clear hW hn hw hY hlo hwh hyb hlt hw1 hF1 hLg hM hres hi hz0 hz1 hz2
  go_enter Try.func25, Try.ntmps25
  go_wp2_with fail
  rw [HW1.out]
  refine HLG.out.mono ?_
  rintro e w2 ⟨rfl, rfl⟩
  go_wp2_with fail
  go_loopw [6, 8, 9, 10] (fun v6 _ _ _ wr => ∃ (q : Nat) (p : Option Addr) (c : Nat), q ≤ M ∧ v6 = .slice p q c ∧ Hid (∃ (got : List Int) (a : Nat), q = got.length ∧ AllBit got ∧ wr.ownsRow w.heap.size 3 1 (.slice p q c) q (is got) ∧ YR wr lo yb B a ∧ Fr (fun i => i = yb) w wr ∧ res = rdW W B (M - q) got a)) (fun v _ _ _ _ => M - lenOf v)
  case atStart => exact ⟨0, _, _, Nat.zero_le _, rfl, (show ∃ (got : List Int) (a : Nat), _ from ⟨[], at_, rfl, (fun x hx => by cases hx), H0.out.1, H0.out.2.1, H0.out.2.2.1, by rw [Nat.sub_zero]; exact H0.out.2.2.2⟩)⟩
  case round =>
    obtain ⟨q, p, c, hq, rfl, HK0⟩ := hrel
    obtain ⟨got, a, hK⟩ := HK0.out
    have HK := Lib.hid hK
    clear HK0 hK H0 HLG
    by_cases hlt : q < M
    · have HT := Lib.hid (rtake wr lo yb a B 1 HK.out.2.2.2.1 HR.out.2.2.2.1 (by omega))
      have hrd : res = rdW W B (M - q - 1 + 1) got a := by
        rw [show M - q - 1 + 1 = M - q by omega]
        exact HK.out.2.2.2.2.2
      rw [rdW] at hrd
      cases hx : B[a]? with
      | none =>
        have h1 := take_end hx HK.out.2.2.2.1.le
        rw [h1.1, h1.2] at HT
        rw [hx] at hrd
        have HE := Lib.hid hrd
        clear h1 hx hrd
        rcases hcase with ⟨⟨g1, g2⟩, rfl⟩ | ⟨⟨g1, g2⟩, rfl⟩
        all_goals
          go_wp2_with fail
          refine HT.out.mono ?_
          rintro e w3 ⟨rfl, hY3, hF3⟩
          have H3 := Lib.hid (⟨hY3, hF3⟩ : _ ∧ _)
          clear hY3 hF3
          go_wp2_with fail
          go_ret2
          rw [HE.out]
          exact ⟨rfl, H3.out.1, HK.out.2.2.2.2.1.trans H3.out.2 (fun _ _ e => e)⟩
      | some x =>
        have h1 := take_one hx
        rw [h1.1, h1.2] at HT
        rw [hx] at hrd
        have hbit : x = 0 ∨ x = 1 := HK.out.2.2.2.1.bits x (List.mem_of_getElem? hx)
        have HE := Lib.hid hrd
        have HBT := Lib.hid hbit
        clear h1 hx hrd hbit
        rcases hcase with ⟨⟨g1, g2⟩, rfl⟩ | ⟨⟨g1, g2⟩, rfl⟩
        all_goals
          go_wp2_with fail
          refine HT.out.mono ?_
          rintro e w3 ⟨rfl, hY3, hF3⟩
          have ho3 := own_past HK.out.2.2.1 hF3 (fun i hi e => by have := HR.out.2.2.2.2.2; omega)
          have hFw := HK.out.2.2.2.2.1.trans hF3 (fun _ _ e => e)
          have H3 := Lib.hid (⟨hY3.kept ((Fr.refl (fun _ => False) w3).alloc (.cells #[.int .i64 x] 3)) (fun _ _ _ e => e) HR.out.2.2.2.1, ho3, hFw.alloc (.cells #[.int .i64 x] 3), hFw⟩ : _ ∧ _ ∧ _ ∧ _)
          clear hY3 hF3 ho3 hFw HT
          go_wp2_with (at_builtin; refine wpList_append_own _ rfl (.tmp 27) (.tmp 29) 22 rfl w.heap.size 3 i0 (.int .i64 0) 1 8 Try.underlying22 HI.out.1 HI.out.2.1 HI.out.2.2.1 HI.out.2.2.2 rfl (by omega) _ q (is got) rfl (World.ownsRow.alloc H3.out.2.1 _) ⟨w3.heap.size, 0, none⟩ 1 1 [.int .i64 x] rfl rfl (newsI _ (heap_alloc_new _ _)) (oneI _) (by unfold maxLen; omega) (by omega) H3.out.2.2.1.size ?_; intro v9 w9 hown9 hg9 _)
          obtain ⟨p', c', e', hl', ho', hF'⟩ := snocS HK.out.1 (World.ownsRow.alloc H3.out.2.1 _) H3.out.2.2.1 hown9 hg9
          subst e'
          have hY9 := yr_grown H3.out.1 (World.ownsRow.alloc H3.out.2.1 _) hg9 HR.out.2.2.2.2.2 HR.out.2.2.2.1
          have hgb : AllBit (got ++ [x]) := HK.out.2.1.append (fun y hy => by rw [List.mem_singleton.1 hy]; exact HBT.out)
          have H9 := Lib.hid (⟨hl', hgb, ho', hY9, hF'⟩ : q + 1 = (got ++ [x]).length ∧ AllBit (got ++ [x]) ∧ w9.ownsRow w.heap.size 3 1 (.slice p' (q + 1) c') (q + 1) (is (got ++ [x])) ∧ YR w9 lo yb B (a + 1) ∧ Fr (fun i => i = yb) w w9)
          clear hown9 hg9 hl' ho' hF' hY9 hgb H3
          go_wp2_with fail
          go_loopw [10] (fun v10 wr => ∃ i : Nat, i ≤ n ∧ v10 = .int .i64 i ∧ Hid (findW (W.take i) (got ++ [x]) = none ∧ Calm w9 wr)) (fun v _ => n - (intOf v).toNat)
          case atStart => exact ⟨0, Nat.zero_le _, rfl, (show _ ∧ _ from ⟨rfl, Calm.refl _⟩)⟩
          case round =>
            obtain ⟨i, hi, rfl, HN⟩ := hrel
            by_cases hlt2 : i < n
            · have hil : i < W.length := by have := HR.out.2.1; omega
              obtain ⟨r, hr⟩ : ∃ r, W[i]? = some r := ⟨_, List.getElem?_eq_getElem hil⟩
              have hFc : Fr (fun i => i = yb) w wr := H9.out.2.2.2.2.trans HN.out.2.fr (fun _ _ e => e.elim)
              have hRW := HR.out.1.kept hFc (by have := HR.out.2.2.2.2.2; have := HR.out.2.2.2.1; have := HR.out.2.2.2.2.1; omega) (fun i _ a e => by have := HR.out.2.2.2.1; have := HR.out.2.2.2.2.1; omega)
              obtain ⟨g, A', c2, rfl, h1, h2, hc, hT⟩ := hRW.at_ hr
              obtain ⟨hr15, hrb⟩ := HR.out.2.2.1 r (List.mem_of_getElem? hr)
              have HRR := Lib.hid hr
              have HRT := Lib.hid (hT.rdI hrb)
              obtain ⟨z, hz⟩ : ∃ z, z = r.length := ⟨_, rfl⟩
              have HZ := Lib.hid hz
              rw [← hz] at hc hr15
              clear hr hFc hRW hT hrb hz hil h1 h2
              by_cases hz0 : 0 < z
              · have hoI : OwnI wr w.heap.size (.slice p' (got ++ [x]).length c') (got ++ [x]) := by
                  have := own_past H9.out.2.2.1 HN.out.2.fr (fun _ _ e => e)
                  unfold OwnI
                  rw [← H9.out.1]
                  exact this
                have hSM := rsame_any wr A' p' wh wr.heap.size c2 c' r (got ++ [x]) HRT.out (OwnI.rd hoI (bit_i64 H9.out.2.1)) (by rw [← HZ.out]; omega)
                rw [← H9.out.1, ← HZ.out] at hSM
                have hiw := isW_some (got := got ++ [x]) (by rw [← HZ.out]; exact hz0)
                by_cases he : r = got ++ [x]
                · rw [decide_eq_true he] at hSM hiw
                  have HF := Lib.hid (find_here HRR.out HN.out.1 hiw)
                  have HSM := Lib.hid hSM
                  clear he hiw hoI hSM
                  go_wp2_with fail
                  refine HSM.out.mono ?_
                  rintro e w5 ⟨rfl, hC5⟩
                  have HC5 := Lib.hid (HN.out.2.trans hC5)
                  clear hC5
                  go_wp2_with fail
                  go_ret2
                  have hE := HE.out
                  simp only [HF.out] at hE
                  rw [hE]
                  exact ⟨rfl, H9.out.2.2.2.1.kept HC5.out.fr (fun _ _ _ e => e) HR.out.2.2.2.1, H9.out.2.2.2.2.trans HC5.out.fr (fun _ _ e => e.elim)⟩
                · rw [decide_eq_false he] at hSM hiw
                  have HF := Lib.hid (find_step HRR.out HN.out.1 hiw)
                  have HSM := Lib.hid hSM
                  clear he hiw hoI hSM
                  go_wp2_with fail
                  refine HSM.out.mono ?_
                  rintro e w5 ⟨rfl, hC5⟩
                  have HC5 := Lib.hid (⟨HF.out, HN.out.2.trans hC5⟩ : _ ∧ _)
                  clear hC5
                  go_wp2_with fail
                  go_roundw
                  case rel => exact ⟨i + 1, by omega, by go_num, HC5⟩
                  case measure => simp [intOf]; omega
              · obtain rfl : z = 0 := by omega
                have hiw : isW (got ++ [x]) r = false := by rw [List.eq_nil_of_length_eq_zero HZ.out.symm]; rfl
                have HF := Lib.hid (⟨find_step HRR.out HN.out.1 hiw, HN.out.2⟩ : _ ∧ _)
                clear hiw
                go_wp2_with fail
                go_roundw
                case rel => exact ⟨i + 1, by omega, by go_num, HF⟩
                case measure => simp [intOf]; omega
            · obtain rfl : i = n := by omega
              have hN := HN.out.1
              rw [List.take_of_length_le (by have := HR.out.2.1; omega)] at hN
              have hE := HE.out
              simp only [hN] at hE
              have HZ : Hid (∃ (got : List Int) (a : Nat), q + 1 = got.length ∧ AllBit got ∧ wr.ownsRow w.heap.size 3 1 (.slice p' (q + 1) c') (q + 1) (is got) ∧ YR wr lo yb B a ∧ Fr (fun i => i = yb) w wr ∧ res = rdW W B (_ - (q + 1)) got a) := Lib.hid ⟨got ++ [x], a + 1, H9.out.1, H9.out.2.1, own_past H9.out.2.2.1 HN.out.2.fr (fun _ _ e => e), H9.out.2.2.2.1.kept HN.out.2.fr (fun _ _ _ e => e) HR.out.2.2.2.1, H9.out.2.2.2.2.trans HN.out.2.fr (fun _ _ e => e.elim), by rw [Nat.sub_sub] at hE; exact hE⟩
              clear hN hE
              go_wp2_with fail
              go_roundw
              case rel => exact ⟨q + 1, p', c', by omega, rfl, HZ⟩
              case measure => simp [lenOf]; omega
    · have hE := HK.out.2.2.2.2.2
      rw [show M - q = 0 by omega, rdW] at hE
      have HE := Lib.hid hE
      clear hE
      rcases hcase with ⟨⟨g1, g2⟩, rfl⟩ | ⟨⟨g1, g2⟩, rfl⟩
      all_goals
        go_wp2_with fail
        go_ret2
        rw [HE.out]
        exact ⟨rfl, HK.out.2.2.2.1, HK.out.2.2.2.2.1⟩
end Go.Proofs.Ytnibbopdjeagoaa.cd
