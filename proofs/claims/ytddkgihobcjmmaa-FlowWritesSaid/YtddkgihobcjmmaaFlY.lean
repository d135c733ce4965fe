/-
  FlowBack over what is asked of the program's readers and writers.
-/
import Derived.Test.YtddkgihobcjmmaaFlX
import Derived.Maps.AppendAt
import Derived.Deep.AppendLies
namespace Go.Proofs.Ytddkgihobcjmmaa.fl
set_option maxRecDepth 100000
open Go.RowKit Go.Maps
set_option maxRecDepth 100000

abbrev zeroF : Value := .agg #[.int .i64 0, .int .i64 0, .int .i64 0, .slice none 0 0]
theorem infoF : (Try.prog.info? 33).map (fun i => (i.zero, i.size, i.bytes)) = some (some zeroF, 4, 48) := by kernel_rfl
/-- Calls as cells. -/
def acs : List AF → List Value
  | [] => []
  | x :: r => .int .i64 x.do_ :: .int .i64 x.n :: .int .i64 x.bits :: .slice x.A x.d.length x.cap :: acs r
theorem acs_length : ∀ l, (acs l).length = l.length * 4
  | [] => rfl
  | x :: r => by simp only [acs, List.length_cons, acs_length r]; omega
theorem acs_append : ∀ a b, acs (a ++ b) = acs a ++ acs b
  | [], b => rfl
  | x :: r, b => by simp only [List.cons_append, acs, acs_append r b]
theorem acs_get : ∀ (l : List AF) (i : Nat) (x : AF), l[i]? = some x → (acs l)[i * 4]? = some (.int .i64 x.do_) ∧ (acs l)[i * 4 + 1]? = some (.int .i64 x.n) ∧ (acs l)[i * 4 + 2]? = some (.int .i64 x.bits) ∧ (acs l)[i * 4 + 3]? = some (.slice x.A x.d.length x.cap)
  | [], i, x, h => by simp at h
  | y :: r, 0, x, h => by
    simp at h
    subst h
    exact ⟨rfl, rfl, rfl, rfl⟩
  | y :: r, i + 1, x, h => by
    have := acs_get r i x (by simpa using h)
    rw [show (i + 1) * 4 = i * 4 + 1 + 1 + 1 + 1 by omega]
    simpa [acs] using this
theorem oneF (a b c : Int) (A : Option Addr) (n cap : Nat) : ∀ u ∈ [Value.int IntKind.i64 a, .int .i64 b, .int .i64 c, .slice A n cap], u.oneCell' = true := by
  intro u hu
  simp at hu
  rcases hu with rfl | rfl | rfl | rfl <;> rfl
def RowA (w w0 : World) (p : Option Addr) (m c : Nat) (T : List AF) : Prop := w.ownsRow w0.heap.size 33 4 (.slice p m c) m (acs T)
theorem RowA.kp {w w' w0 : World} {p : Option Addr} {m c : Nat} {T : List AF} (h : RowA w w0 p m c T) (hk : ∀ g, (Value.slice p m c).ownBlock = some g → w'.heap[g]? = w.heap[g]?) : RowA w' w0 p m c T := by
  obtain ⟨h1, h2⟩ := h
  refine ⟨h1, ?_⟩
  rcases h2 with h2 | ⟨g, cap, cur, hv, hg, hh, r⟩
  · exact Or.inl h2
  · exact Or.inr ⟨g, cap, cur, hv, hg, (hk g (by rw [hv]; rfl)).trans hh, r⟩
theorem RowA.fr {w w' w0 : World} {p : Option Addr} {m c : Nat} {T : List AF} (h : RowA w w0 p m c T) (hF : Fr (fun _ => False) w w') : RowA w' w0 p m c T := h.kp (fun g hg => hF.block g (World.ownsRow.lt h g hg).2 id)
theorem RowA.at_ {w w0 : World} {p : Option Addr} {m c : Nat} {T : List AF} (h : RowA w w0 p m c T) {j : Nat} {x : AF} (hx : T[j]? = some x) (hm : m = T.length) : ∃ g, p = some ⟨g, 0, none⟩ ∧ w.cell? ⟨g, j * 4, none⟩ = some (.int .i64 x.do_) ∧ w.cell? ⟨g, j * 4 + 1, none⟩ = some (.int .i64 x.n) ∧ w.cell? ⟨g, j * 4 + 2, none⟩ = some (.int .i64 x.bits) ∧ w.cell? ⟨g, j * 4 + 3, none⟩ = some (.slice x.A x.d.length x.cap) := by
  have hj := (List.getElem?_eq_some_iff.1 hx).1
  obtain ⟨h1, h2⟩ := h
  rcases h2 with ⟨_, h0⟩ | ⟨g, cap', cur, hv, hg, hh, _, _, _, ht⟩
  · omega
  · cases hv
    have key : ∀ i u, (acs T)[i]? = some u → w.cell? ⟨g, i, none⟩ = some u := fun i u hi => by
      rw [cellAt hh, ← Array.getElem?_toList]
      have h1 : (cur.toList.take (m * 4))[i]? = some u := by rw [ht, hi]
      rw [List.getElem?_take] at h1
      split at h1
      · exact h1
      · cases h1
    obtain ⟨c0, c1, c2, c3⟩ := acs_get T j x hx
    exact ⟨g, rfl, key _ _ c0, key _ _ c1, key _ _ c2, key _ _ c3⟩

section
variable {R : RP} {V : VP}
theorem rowA_snoc (HP : FlowP R V) {w0 wc w' : World} {a : Addr} {p : Option Addr} {m c : Nat} {T : List AF} {x : AF} {v : Value} {L : List Int} (hm : m = T.length) (hj : JW V w0 a (fun i => (Value.slice p m c).ownBlock = some i) wc L) (hown : w'.ownsRow w0.heap.size 33 4 v (m + 1) (acs T ++ [.int .i64 x.do_, .int .i64 x.n, .int .i64 x.bits, .slice x.A x.d.length x.cap])) (hg : wc.grownBy w' (Value.slice p m c).ownBlock) (hat : v.ownBlock = (Value.slice p m c).ownBlock ∨ v.ownBlock = some wc.heap.size) :
    ∃ p' c', v = .slice p' (m + 1) c' ∧ RowA w' w0 p' (m + 1) c' (T ++ [x]) ∧ JW V w0 a (fun i => (Value.slice p' (m + 1) c').ownBlock = some i) w' L := by
  have hown2 : w'.ownsRow w0.heap.size 33 4 v (m + 1) (acs (T ++ [x])) := by rw [acs_append]; exact hown
  rcases hown2.2 with ⟨_, h0⟩ | ⟨g, cap, cur, rfl, _⟩
  · omega
  · refine ⟨_, cap, rfl, hown2, ?_⟩
    have hF : Fr (fun i => (Value.slice p m c).ownBlock = some i) wc w' := (Fr.refl _ wc).grown hg (fun q e => Or.inl e)
    refine (hj.fresh HP hF).less (fun i e => ?_)
    rcases hat with h2 | h2
    · exact Or.inl (by rw [← h2]; exact e)
    · have hlt := World.ownsRow.lt hown2 i e
      rw [h2] at e
      have e2 : wc.heap.size = i := Option.some.inj e
      exact Or.inr ⟨by omega, hlt.2⟩
set_option maxHeartbeats 8000000 in
theorem back_walk (HP : FlowP R V) (w : World) (Aa : Option Addr) (ca : Nat) (acts : List AF) (ha : ActsF w w.heap.size Aa acts) :
    Calls Try.prog 5 #[.slice Aa acts.length ca] w fun e w' => e = .returned (.bool true) ∧ Fr (fun _ => False) w w' := by
  have HPP := Lib.hid HP
  have HAC := Lib.hid ha
  obtain ⟨na, hna⟩ : ∃ na, na = acts.length := ⟨_, rfl⟩
  have HNA := Lib.hid hna
  have hna3 : na ≤ 9223372036854775807 := by rw [hna]; exact ha.len
  rw [← hna]
  obtain ⟨i0, hi, hz0, hz1, hz2⟩ := info_parts infoF
  have HI := Lib.hid (⟨hi, hz0, hz1, hz2⟩ : _ ∧ _ ∧ _ ∧ _)
  have HW := Lib.hid (fworks HP w)
  clear HP ha hna hi hz0 hz1 hz2
  go_enter Try.func5, Try.ntmps5
  go_wp2_with fail
  refine HW.out.mono ?_
  rintro e wa ⟨rfl, hFa⟩
  have HFa := Lib.hid hFa
  clear hFa HW
  go_wp2_with fail
  refine (HPP.out.write wa).mono ?_
  rintro e w1 ⟨a, S, rfl, hV, hS, hF1⟩
  have hF01 := HFa.out.trans hF1 (fun _ _ e => e)
  have hJ1 : JW V w a (fun _ => False) w1 [] := ⟨⟨S, hV, fun i hi => ⟨Nat.le_trans HFa.out.size (hS i hi), id⟩⟩, hF01, fun i e => e.elim⟩
  have hs1 : (w1.alloc (.cells #[] 33)).heap.size = w1.heap.size + 1 := World.size_alloc _ _
  have hrow1 : RowA (w1.alloc (.cells #[] 33)) w (some ⟨w1.heap.size, 0, none⟩) 0 0 [] := World.ownsRow_made w1 #[] 0 hF01.size (Nat.zero_le _) (by simp)
  have hJ2 := (hJ1.fresh HPP.out ((Fr.refl _ w1).alloc (.cells #[] 33))).less (Y := fun i => (Value.slice (some ⟨w1.heap.size, 0, none⟩) 0 0).ownBlock = some i) (fun i e => Or.inr (by have e2 : w1.heap.size = i := Option.some.inj e; omega))
  have H2 := Lib.hid (⟨hJ2, hrow1⟩ : _ ∧ _)
  clear hV hS hF1 hF01 hJ1 hs1 hrow1 hJ2
  go_wp2_with fail
  go_loopw [4, 5] (fun v4 v5 wr => ∃ (k m c : Nat) (p : Option Addr) (T : List AF), k ≤ na ∧ k ≤ 100 ∧ m ≤ k ∧ v5 = .int .i64 k ∧ v4 = .slice p m c ∧ Hid (m = T.length ∧ JW V w a (fun i => (Value.slice p m c).ownBlock = some i) wr (encT T) ∧ RowA wr w p m c T ∧ ∀ x ∈ T, lowB x.n x.bits = true ∧ Big x.n ∧ Big x.bits)) (fun _ v _ => na - (intOf v).toNat)
  case atStart => exact ⟨0, 0, 0, _, [], Nat.zero_le _, Nat.zero_le _, Nat.zero_le _, rfl, rfl, (show _ ∧ _ from ⟨rfl, H2.out.1, H2.out.2, fun x hx => by cases hx⟩)⟩
  case round =>
    obtain ⟨k, m, c, p, T, hk, hk2, hm, rfl, rfl, HK⟩ := hrel
    clear H2
    have HTL := Lib.hid (show (encT T).length ≤ 2400 by have := encT_len T; have := HK.out.1; omega)
    by_cases hlt : k < na ∧ k < 100
    · obtain ⟨hl1, hl2⟩ := hlt
      have hl3 : (k : Int) < 100 := by omega
      obtain ⟨x, hx⟩ : ∃ x, acts[k]? = some x := ⟨_, List.getElem?_eq_getElem (by have := HNA.out; omega)⟩
      obtain ⟨blk, off, rfl, c0, c1, c2, c3⟩ := HAC.out.at_ hx HK.out.2.1.fr (Nat.le_refl _) (fun _ _ e => e)
      have HOK := Lib.hid (HAC.out.ok x (List.mem_of_getElem? hx))
      obtain ⟨xd, xn, xb, xA, xc, xl⟩ := x
      obtain ⟨q3, hq3⟩ : ∃ q3, q3 = xl.length := ⟨_, rfl⟩
      have HQ3 := Lib.hid hq3
      have c3' : wr.cell? ⟨blk, off + k * 4 + 3, none⟩ = some (.slice xA q3 xc) := by rw [hq3]; exact c3
      have HAM := Lib.hid (fun w2 : World => among_any w2 xd 2 (by omega) (by omega))
      have hzin := amongZ_in (n := xd) (m := 2) (by omega) (by omega)
      obtain ⟨z, hz⟩ : ∃ z, z = amongZ xd 2 := ⟨_, rfl⟩
      rw [← hz] at HAM hzin
      have HZ0 := Lib.hid hz
      obtain ⟨hz0, hz1⟩ := hzin
      obtain ⟨g9, hg9⟩ : ∃ g9, g9 = wr.heap.size := ⟨_, rfl⟩
      obtain ⟨w9, hw9⟩ : ∃ w9, w9 = wr.alloc (.cells #[.int .i64 xd, .int .i64 xn, .int .i64 xb, .slice xA q3 xc] 33) := ⟨_, rfl⟩
      have hF9 : Fr (fun _ => False) wr w9 := by rw [hw9]; exact (Fr.refl _ wr).alloc _
      have hs9 : w9.heap.size = wr.heap.size + 1 := by rw [hw9]; exact World.size_alloc _ _
      have hJ9 := HK.out.2.1.fresh HPP.out (hF9.mono (fun _ _ e => e.elim))
      have hB9 : w9.heap[g9]? = some (.cells #[.int .i64 xd, .int .i64 xn, .int .i64 xb, .slice xA q3 xc] 33 (0, 0)) := by rw [hw9, hg9]; exact heap_alloc_new wr _
      have HG9 := Lib.hid (show wr.heap.size ≤ g9 ∧ g9 < w9.heap.size by omega)
      have H9 := Lib.hid (And.intro hJ9 (And.intro (HK.out.2.2.1.fr hF9) trivial))
      clear c3 hx hq3 hz
      go_wp2_with fail
      rw [← hg9, ← hw9]
      have HB9 := Lib.hid hB9
      have d0 : w9.cell? ⟨g9, 0, none⟩ = some (.int .i64 xd) := (cellAt hB9 0).trans rfl
      have d1 : w9.cell? ⟨g9, 1, none⟩ = some (.int .i64 xn) := (cellAt hB9 1).trans rfl
      have d2 : w9.cell? ⟨g9, 2, none⟩ = some (.int .i64 xb) := (cellAt hB9 2).trans rfl
      have d3 : w9.cell? ⟨g9, 3, none⟩ = some (.slice xA q3 xc) := (cellAt hB9 3).trans rfl
      clear hJ9 hB9 hw9 hg9 hF9 hs9 c0 c1 c2 c3'
      refine (HAM.out w9).mono ?_
      rintro e w' ⟨rfl, rfl⟩
      rcases (show z = 0 ∨ z = 1 by omega) with rfl | rfl
      · have HZZ := Lib.hid (show (if amongZ xd 2 = 0 then lowL xn xb else (lowL xn xb).reverse) = lowL xn xb from if_pos HZ0.out.symm)
        cases hlb : lowB xn xb with
        | true =>
          have HPU := Lib.hid (H9.out.1.put HPP.out xn xb (by have := HTL.out; omega) HOK.out.n HOK.out.bits)
          rw [show putZ xn xb = 0 by unfold putZ; rw [hlb]; rfl, show putL' (encT T) xn xb = encT T ++ lowL xn xb by unfold putL'; rw [hlb]; rfl] at HPU
          have HLB := Lib.hid hlb
          clear hlb
          go_wp2_with fail
          refine HPU.out.mono ?_
          rintro e w10 ⟨rfl, hk10, hj10⟩
          have hrow10 := H9.out.2.1.kp (fun g hg => hk10 g (Or.inl hg))
          have hb10 := (hk10 g9 (Or.inr HG9.out)).trans HB9.out
          have e0 : w10.cell? ⟨g9, 0, none⟩ = some (.int .i64 xd) := (cellAt hb10 0).trans rfl
          have e1 : w10.cell? ⟨g9, 1, none⟩ = some (.int .i64 xn) := (cellAt hb10 1).trans rfl
          have e2 : w10.cell? ⟨g9, 2, none⟩ = some (.int .i64 xb) := (cellAt hb10 2).trans rfl
          have e3 : w10.cell? ⟨g9, 3, none⟩ = some (.slice xA q3 xc) := (cellAt hb10 3).trans rfl
          have hF11 : Fr (fun _ => False) w10 (w10.alloc (.cells #[.int .i64 xd, .int .i64 xn, .int .i64 xb, .slice xA q3 xc] 33)) := (Fr.refl _ w10).alloc _
          have HJ11 := Lib.hid (⟨(hj10.less (Y := fun i => (Value.slice p m c).ownBlock = some i) (fun i e => Or.inl e)).still HPP.out hF11, hrow10.fr hF11⟩ : _ ∧ _)
          have hm100 : m ≤ 100 := by omega
          clear hk10 hj10 hrow10 HPU d0 d1 d2 d3 hb10 hF11
          go_wp2_with (at_builtin; refine wpList_append_own_at _ rfl (.tmp 53) (.tmp 55) 23 rfl w.heap.size 33 i0 zeroF 4 48 Try.underlying23 HI.out.1 HI.out.2.1 HI.out.2.2.1 HI.out.2.2.2 rfl (by omega) _ m (acs T) rfl HJ11.out.2 ⟨w10.heap.size, 0, none⟩ 1 1 [.int .i64 xd, .int .i64 xn, .int .i64 xb, .slice xA q3 xc] rfl rfl (World.news_of_block (heap_alloc_new w10 _)) (oneF _ _ _ _ _ _) (by unfold maxLen; omega) (by omega) HJ11.out.1.fr.size ?_; intro v13 w13 hown hg _ hat; have HX := Lib.hid (rowA_snoc (x := ⟨xd, xn, xb, xA, xc, xl⟩) HPP.out HK.out.1 HJ11.out.1 (by show World.ownsRow _ _ _ _ _ _ (acs T ++ [.int .i64 xd, .int .i64 xn, .int .i64 xb, .slice xA xl.length xc]); rw [← HQ3.out]; exact hown) hg hat); clear hown hg hat; obtain ⟨p13, c13, hv13, hr13, hj13⟩ := HX.out; subst hv13)
          have HZ := Lib.hid (⟨by rw [List.length_append, ← HK.out.1]; rfl, (by
            rw [encT_snoc]
            unfold encF
            show JW V w a _ w13 (encT T ++ if amongZ xd 2 = 0 then lowL xn xb else (lowL xn xb).reverse)
            rw [HZZ.out]
            exact hj13), hr13, fun x hx => by
            rcases List.mem_append.1 hx with hx | hx
            · exact HK.out.2.2.2 x hx
            · obtain rfl := List.mem_singleton.1 hx
              exact ⟨HLB.out, HOK.out.n, HOK.out.bits⟩⟩ : m + 1 = (T ++ [(⟨xd, xn, xb, xA, xc, xl⟩ : AF)]).length ∧ JW V w a (fun i => (Value.slice p13 (m + 1) c13).ownBlock = some i) w13 (encT (T ++ [(⟨xd, xn, xb, xA, xc, xl⟩ : AF)])) ∧ RowA w13 w p13 (m + 1) c13 (T ++ [(⟨xd, xn, xb, xA, xc, xl⟩ : AF)]) ∧ ∀ x ∈ T ++ [(⟨xd, xn, xb, xA, xc, xl⟩ : AF)], lowB x.n x.bits = true ∧ Big x.n ∧ Big x.bits)
          clear hj13 hr13 HX
          go_wp2_with fail
          go_roundw
          case rel => exact ⟨k + 1, m + 1, c13, p13, _, by omega, by omega, by omega, by go_num, rfl, (show _ ∧ _ from HZ.out)⟩
          case measure => simp [intOf]; omega
        | false =>
          have HPU := Lib.hid (H9.out.1.put HPP.out xn xb (by have := HTL.out; omega) HOK.out.n HOK.out.bits)
          rw [show putZ xn xb = 2 by unfold putZ; rw [hlb]; rfl, show putL' (encT T) xn xb = encT T by unfold putL'; rw [hlb]; rfl] at HPU
          have HLB := Lib.hid hlb
          clear hlb
          go_wp2_with fail
          refine HPU.out.mono ?_
          rintro e w10 ⟨rfl, hk10, hj10⟩
          have hrow10 := H9.out.2.1.kp (fun g hg => hk10 g (Or.inl hg))
          have HZ := Lib.hid (⟨HK.out.1, hj10.less (Y := fun i => (Value.slice p m c).ownBlock = some i) (fun i e => Or.inl e), hrow10, HK.out.2.2.2⟩ : m = T.length ∧ JW V w a (fun i => (Value.slice p m c).ownBlock = some i) w10 (encT T) ∧ RowA w10 w p m c T ∧ ∀ x ∈ T, lowB x.n x.bits = true ∧ Big x.n ∧ Big x.bits)
          clear hk10 hj10 hrow10 HPU d0 d1 d2 d3
          go_wp2_with fail
          go_roundw
          case rel => exact ⟨k + 1, m, c, p, T, by omega, by omega, by omega, by go_num, rfl, (show _ ∧ _ from HZ.out)⟩
          case measure => simp [intOf]; omega
      · have HZZ := Lib.hid (show (if amongZ xd 2 = 0 then lowL xn xb else (lowL xn xb).reverse) = (lowL xn xb).reverse from if_neg (by rw [← HZ0.out]; decide))
        cases hlb : lowB xn xb with
        | true =>
          have HPU := Lib.hid (H9.out.1.code HPP.out xn xb (by have := HTL.out; omega) HOK.out.n HOK.out.bits)
          rw [show putZ xn xb = 0 by unfold putZ; rw [hlb]; rfl, show codeL (encT T) xn xb = encT T ++ (lowL xn xb).reverse by unfold codeL; rw [hlb]; rfl] at HPU
          have HLB := Lib.hid hlb
          clear hlb
          go_wp2_with fail
          refine HPU.out.mono ?_
          rintro e w10 ⟨rfl, hk10, hj10⟩
          have hrow10 := H9.out.2.1.kp (fun g hg => hk10 g (Or.inl hg))
          have hb10 := (hk10 g9 (Or.inr HG9.out)).trans HB9.out
          have e0 : w10.cell? ⟨g9, 0, none⟩ = some (.int .i64 xd) := (cellAt hb10 0).trans rfl
          have e1 : w10.cell? ⟨g9, 1, none⟩ = some (.int .i64 xn) := (cellAt hb10 1).trans rfl
          have e2 : w10.cell? ⟨g9, 2, none⟩ = some (.int .i64 xb) := (cellAt hb10 2).trans rfl
          have e3 : w10.cell? ⟨g9, 3, none⟩ = some (.slice xA q3 xc) := (cellAt hb10 3).trans rfl
          have hF11 : Fr (fun _ => False) w10 (w10.alloc (.cells #[.int .i64 xd, .int .i64 xn, .int .i64 xb, .slice xA q3 xc] 33)) := (Fr.refl _ w10).alloc _
          have HJ11 := Lib.hid (⟨(hj10.less (Y := fun i => (Value.slice p m c).ownBlock = some i) (fun i e => Or.inl e)).still HPP.out hF11, hrow10.fr hF11⟩ : _ ∧ _)
          have hm100 : m ≤ 100 := by omega
          clear hk10 hj10 hrow10 HPU d0 d1 d2 d3 hb10 hF11
          go_wp2_with (at_builtin; refine wpList_append_own_at _ rfl (.tmp 53) (.tmp 55) 23 rfl w.heap.size 33 i0 zeroF 4 48 Try.underlying23 HI.out.1 HI.out.2.1 HI.out.2.2.1 HI.out.2.2.2 rfl (by omega) _ m (acs T) rfl HJ11.out.2 ⟨w10.heap.size, 0, none⟩ 1 1 [.int .i64 xd, .int .i64 xn, .int .i64 xb, .slice xA q3 xc] rfl rfl (World.news_of_block (heap_alloc_new w10 _)) (oneF _ _ _ _ _ _) (by unfold maxLen; omega) (by omega) HJ11.out.1.fr.size ?_; intro v13 w13 hown hg _ hat; have HX := Lib.hid (rowA_snoc (x := ⟨xd, xn, xb, xA, xc, xl⟩) HPP.out HK.out.1 HJ11.out.1 (by show World.ownsRow _ _ _ _ _ _ (acs T ++ [.int .i64 xd, .int .i64 xn, .int .i64 xb, .slice xA xl.length xc]); rw [← HQ3.out]; exact hown) hg hat); clear hown hg hat; obtain ⟨p13, c13, hv13, hr13, hj13⟩ := HX.out; subst hv13)
          have HZ := Lib.hid (⟨by rw [List.length_append, ← HK.out.1]; rfl, (by
            rw [encT_snoc]
            unfold encF
            show JW V w a _ w13 (encT T ++ if amongZ xd 2 = 0 then lowL xn xb else (lowL xn xb).reverse)
            rw [HZZ.out]
            exact hj13), hr13, fun x hx => by
            rcases List.mem_append.1 hx with hx | hx
            · exact HK.out.2.2.2 x hx
            · obtain rfl := List.mem_singleton.1 hx
              exact ⟨HLB.out, HOK.out.n, HOK.out.bits⟩⟩ : m + 1 = (T ++ [(⟨xd, xn, xb, xA, xc, xl⟩ : AF)]).length ∧ JW V w a (fun i => (Value.slice p13 (m + 1) c13).ownBlock = some i) w13 (encT (T ++ [(⟨xd, xn, xb, xA, xc, xl⟩ : AF)])) ∧ RowA w13 w p13 (m + 1) c13 (T ++ [(⟨xd, xn, xb, xA, xc, xl⟩ : AF)]) ∧ ∀ x ∈ T ++ [(⟨xd, xn, xb, xA, xc, xl⟩ : AF)], lowB x.n x.bits = true ∧ Big x.n ∧ Big x.bits)
          clear hj13 hr13 HX
          go_wp2_with fail
          go_roundw
          case rel => exact ⟨k + 1, m + 1, c13, p13, _, by omega, by omega, by omega, by go_num, rfl, (show _ ∧ _ from HZ.out)⟩
          case measure => simp [intOf]; omega
        | false =>
          have HPU := Lib.hid (H9.out.1.code HPP.out xn xb (by have := HTL.out; omega) HOK.out.n HOK.out.bits)
          rw [show putZ xn xb = 2 by unfold putZ; rw [hlb]; rfl, show codeL (encT T) xn xb = encT T by unfold codeL; rw [hlb]; rfl] at HPU
          have HLB := Lib.hid hlb
          clear hlb
          go_wp2_with fail
          refine HPU.out.mono ?_
          rintro e w10 ⟨rfl, hk10, hj10⟩
          have hrow10 := H9.out.2.1.kp (fun g hg => hk10 g (Or.inl hg))
          have HZ := Lib.hid (⟨HK.out.1, hj10.less (Y := fun i => (Value.slice p m c).ownBlock = some i) (fun i e => Or.inl e), hrow10, HK.out.2.2.2⟩ : m = T.length ∧ JW V w a (fun i => (Value.slice p m c).ownBlock = some i) w10 (encT T) ∧ RowA w10 w p m c T ∧ ∀ x ∈ T, lowB x.n x.bits = true ∧ Big x.n ∧ Big x.bits)
          clear hk10 hj10 hrow10 HPU d0 d1 d2 d3
          go_wp2_with fail
          go_roundw
          case rel => exact ⟨k + 1, m, c, p, T, by omega, by omega, by omega, by go_num, rfl, (show _ ∧ _ from HZ.out)⟩
          case measure => simp [intOf]; omega
    · have hor : ¬ k < na ∨ (k < na ∧ ¬ (k : Int) < 100) := by omega
      have hm100 : m ≤ 100 := by omega
      obtain ⟨L, hL⟩ : ∃ L, L = encT T := ⟨_, rfl⟩
      have HLL := Lib.hid (⟨hL, by rw [hL]; exact HTL.out, by rw [hL]; exact HK.out.2.1.bits HPP.out⟩ : L = encT T ∧ L.length ≤ 2400 ∧ AllBit L)
      have HAL := Lib.hid (HK.out.2.1.all HPP.out (by have := HTL.out; omega))
      rw [← hL] at HAL
      have HRW := Lib.hid (⟨HK.out.1, HK.out.2.2.1, HK.out.2.2.2⟩ : _ ∧ _ ∧ _)
      obtain ⟨P, hP⟩ : ∃ P, P = packI L := ⟨_, rfl⟩
      obtain ⟨np, hnp⟩ : ∃ np, np = P.length := ⟨_, rfl⟩
      have HP2 := Lib.hid (⟨hP, hnp, by rw [hnp, hP, packI_length]; have := HLL.out.2.1; omega, ⟨_, by rw [hP]; exact bits_pack HLL.out.2.2⟩⟩ : P = packI L ∧ np = P.length ∧ np ≤ 301 ∧ ∃ Z, bitsOf P = L ++ Z)
      have hnp1 := HP2.out.2.2.1
      rw [← hP, ← hnp] at HAL
      clear hlt HK hP hnp hm hk hk2 hL
      rcases hor with hor | ⟨hor1, hor2⟩
      all_goals
        go_wp2_with fail
        refine HAL.out.mono ?_
        rintro e w5 ⟨A, cap, rfl, ho, hk5, hj5⟩
        have hcap : (A = none → cap = 0) ∧ P.length ≤ cap := by
          have h := ho
          rw [HP2.out.2.1] at h
          exact own_cap2 h
        have hrd : Rd w5 w5.heap.size A P := by
          have h := ho
          rw [HP2.out.2.1] at h
          exact Own.rd h
        have HNW := Lib.hid (HPP.out.new w5 A cap P hrd hcap.1 hcap.2 (by rw [← HP2.out.2.1]; omega))
        rw [← HP2.out.2.1] at HNW
        have H5 := Lib.hid (⟨hj5, HRW.out.2.1.kp (fun g hg => hk5 g hg)⟩ : _ ∧ RowA w5 w p m c T)
        clear ho hk5 hj5 hcap hrd HAL
        go_wp2_with fail
        refine HNW.out.mono ?_
        rintro e w6 ⟨ar, S2, rfl, hR, hS2, hF6⟩
        have H6 : Hid (JB R V w ar P a L (fun i => (Value.slice p m c).ownBlock = some i) w6 0 ∧ RowA w6 w p m c T) := Lib.hid ⟨by
          obtain ⟨T', g1, g2⟩ := H5.out.1.v
          exact ⟨⟨S2, T', hR, HPP.out.v_keep g1 hF6 (fun _ _ e => e), fun i hi => ⟨Nat.le_trans H5.out.1.fr.size (hS2 i hi), fun ht => by have := hS2 i hi; have := (HPP.out.v_in g1).1 i ht; omega, fun e => by have := hS2 i hi; have := (H5.out.1.x i (Or.inl e)).2; omega⟩, fun i hi => ⟨(g2 i hi).1, fun e => (g2 i hi).2 (Or.inl e)⟩⟩, H5.out.1.fr.trans hF6 (fun _ _ e => e), fun i e => ⟨(H5.out.1.x i (Or.inl e)).1, Nat.lt_of_lt_of_le (H5.out.1.x i (Or.inl e)).2 hF6.size⟩⟩, H5.out.2.fr hF6⟩
        clear hR hS2 hF6 HNW H5
        go_wp2_with fail
        go_loopw [9] (fun v9 wq => ∃ j : Nat, j ≤ m ∧ v9 = .int .i64 j ∧ Hid (JB R V w ar P a L (fun i => (Value.slice p m c).ownBlock = some i) wq (encT (T.take j)).length ∧ RowA wq w p m c T)) (fun v _ => m - (intOf v).toNat)
        case atStart => exact ⟨0, Nat.zero_le _, rfl, (show _ ∧ _ from H6.out)⟩
        case round =>
          obtain ⟨j, hj, rfl, HQ⟩ := hrel
          clear H6
          by_cases hltj : j < m
          · obtain ⟨x, hx⟩ : ∃ x, T[j]? = some x := ⟨_, List.getElem?_eq_getElem (by have := HRW.out.1; omega)⟩
            obtain ⟨g, rfl, c0, c1, c2, c3⟩ := HQ.out.2.at_ hx HRW.out.1
            have hok := HRW.out.2.2 x (List.mem_of_getElem? hx)
            have hed := enc_drop hx
            have hsucc := enc_take_succ hx
            obtain ⟨xd, xn, xb, xA, xc, xl⟩ := x
            have hmay : mayB xn xb = true := by have h := hok.1; unfold lowB at h; exact (Bool.and_eq_true_iff.1 h).1
            obtain ⟨K, rfl⟩ : ∃ K : Nat, xb = K := ⟨xb.toNat, by have := (mayB_iff _ _).1 hmay; omega⟩
            have hK24 : K ≤ 24 := by have := (mayB_iff _ _).1 hmay; omega
            have hxn0 : 0 ≤ xn := ((mayB_iff _ _).1 hmay).2.2
            have hlen := encF_len (x := ⟨xd, xn, (K : Int), xA, xc, xl⟩) hok.1 rfl
            obtain ⟨Z, hZ⟩ := HP2.out.2.2.2
            obtain ⟨E, hE⟩ : ∃ E, E = encF ⟨xd, xn, (K : Int), xA, xc, xl⟩ := ⟨_, rfl⟩
            obtain ⟨pj, hpj⟩ : ∃ pj, pj = (encT (T.take j)).length := ⟨_, rfl⟩
            have HB := Lib.hid (⟨by rw [hZ, HLL.out.1, hed, hE, List.append_assoc, List.append_assoc], hpj, by rw [hE]; exact hlen.1, by rw [hsucc, List.length_append, ← hpj, hlen.1], hE, hok.1⟩ : bitsOf P = encT (T.take j) ++ (E ++ (encT (T.drop (j + 1)) ++ Z)) ∧ pj = (encT (T.take j)).length ∧ E.length = K ∧ (encT (T.take (j + 1))).length = pj + K ∧ E = encF ⟨xd, xn, (K : Int), xA, xc, xl⟩ ∧ lowB xn (K : Int) = true)
            have HQJ := Lib.hid HQ.out
            rw [← hpj] at HQJ
            obtain ⟨q3, hq3⟩ : ∃ q3, q3 = xl.length := ⟨_, rfl⟩
            have c3' : wr.cell? ⟨g, j * 4 + 3, none⟩ = some (.slice xA q3 xc) := by rw [hq3]; exact c3
            have HAM := Lib.hid (fun w2 : World => among_any w2 xd 2 (by omega) (by omega))
            have hzin := amongZ_in (n := xd) (m := 2) (by omega) (by omega)
            obtain ⟨z, hz⟩ : ∃ z, z = amongZ xd 2 := ⟨_, rfl⟩
            rw [← hz] at HAM hzin
            have HZ0 := Lib.hid hz
            obtain ⟨hz0, hz1⟩ := hzin
            obtain ⟨g9, hg9⟩ : ∃ g9, g9 = wr.heap.size := ⟨_, rfl⟩
            obtain ⟨w9, hw9⟩ : ∃ w9, w9 = wr.alloc (.cells #[.int .i64 xd, .int .i64 xn, .int .i64 (K : Int), .slice xA q3 xc] 33) := ⟨_, rfl⟩
            have hF9 : Fr (fun _ => False) wr w9 := by rw [hw9]; exact (Fr.refl _ wr).alloc _
            have hs9 : w9.heap.size = wr.heap.size + 1 := by rw [hw9]; exact World.size_alloc _ _
            have hB9 : w9.heap[g9]? = some (.cells #[.int .i64 xd, .int .i64 xn, .int .i64 (K : Int), .slice xA q3 xc] 33 (0, 0)) := by rw [hw9, hg9]; exact heap_alloc_new wr _
            have H9 : Hid (JB R V w ar P a L (fun i => (Value.slice (some ⟨g, 0, none⟩) m c).ownBlock = some i ∨ i = g9) w9 pj ∧ RowA w9 w (some ⟨g, 0, none⟩) m c T) := Lib.hid ⟨(HQJ.out.1.fresh HPP.out hF9).less (fun i e => e.elim Or.inl (fun e => Or.inr (by omega))), HQJ.out.2.fr hF9⟩
            clear c3 hx hq3 hz hok hed hsucc hmay hlen hZ hE hpj HQJ
            go_wp2_with fail
            rw [← hg9, ← hw9]
            have HB9 := Lib.hid hB9
            have d0 : w9.cell? ⟨g9, 0, none⟩ = some (.int .i64 xd) := (cellAt hB9 0).trans rfl
            have d1 : w9.cell? ⟨g9, 1, none⟩ = some (.int .i64 xn) := (cellAt hB9 1).trans rfl
            have d2 : w9.cell? ⟨g9, 2, none⟩ = some (.int .i64 (K : Int)) := (cellAt hB9 2).trans rfl
            clear hB9 hw9 hg9 hF9 hs9 c0 c1 c2 c3'
            refine (HAM.out w9).mono ?_
            rintro e w' ⟨rfl, rfl⟩
            rcases (show z = 0 ∨ z = 1 by omega) with rfl | rfl
            · have HEE := Lib.hid (show numI E = xn by
                rw [HB.out.2.2.2.2.1]
                unfold encF
                rw [if_pos HZ0.out.symm]
                exact low_back HB.out.2.2.2.2.2)
              have HTK := Lib.hid (H9.out.1.take HPP.out (K : Int) (by omega))
              have htm := take_mid (A := encT (T.take j)) (B := E) (C := encT (T.drop (j + 1)) ++ Z) hK24 HB.out.2.2.1
              rw [← HB.out.1, ← HB.out.2.1, HEE.out] at htm
              rw [htm.1, htm.2] at HTK
              clear htm
              go_wp2_with fail
              refine HTK.out.mono ?_
              rintro e w10 ⟨rfl, hk10, hj10⟩
              have e1 : w10.cell? ⟨g9, 1, none⟩ = some (.int .i64 xn) := (cellAt ((hk10 g9 (Or.inr rfl)).trans HB9.out) 1).trans rfl
              have HZ := Lib.hid (⟨by rw [HB.out.2.2.2.1]; exact hj10.less (fun i e => Or.inl e), H9.out.2.kp (fun g hg => hk10 g (Or.inl hg))⟩ : JB R V w ar P a L (fun i => (Value.slice (some ⟨g, 0, none⟩) m c).ownBlock = some i) w10 (encT (T.take (j + 1))).length ∧ RowA w10 w (some ⟨g, 0, none⟩) m c T)
              clear hk10 hj10 HTK d0 d1 d2
              go_wp2_with fail
              go_roundw
              case rel => exact ⟨j + 1, by omega, by go_num, HZ⟩
              case measure => simp [intOf]; omega
            · have HEE := Lib.hid (show E = (lowI xn K).reverse by
                rw [HB.out.2.2.2.2.1]
                unfold encF
                rw [if_neg (by rw [← HZ0.out]; decide)]
                unfold lowL
                rw [if_pos (by have h := HB.out.2.2.2.2.2; unfold lowB at h; exact (Bool.and_eq_true_iff.1 h).1)]
                rfl)
              have HND := Lib.hid (show xn / 2 ^ K = 0 by
                have h := HB.out.2.2.2.2.2
                unfold lowB at h
                simpa using (Bool.and_eq_true_iff.1 h).2)
              have hx24 : xn < 16777216 := by
                have h1 := Int.emod_add_mul_ediv xn (2 ^ K)
                have hpos : (0 : Int) < 2 ^ K := Int.pow_pos (by omega)
                have h2 := Int.emod_lt_of_pos xn hpos
                have hp : (2 : Int) ^ K ≤ 2 ^ 24 := by exact_mod_cast Nat.pow_le_pow_right (n := 2) (by omega) hK24
                rw [HND.out] at h1
                omega
              have H9b := Lib.hid (⟨H9.out.1, HB9.out, H9.out.2⟩ : JB R V w ar P a L (fun i => (Value.slice (some ⟨g, 0, none⟩) m c).ownBlock = some i ∨ i = g9) w9 pj ∧ w9.heap[g9]? = some (.cells #[.int .i64 xd, .int .i64 xn, .int .i64 (K : Int), .slice xA q3 xc] 33 (0, 0)) ∧ RowA w9 w (some ⟨g, 0, none⟩) m c T)
              clear d0 d1 d2 H9
              go_wp2_with fail
              go_loopw [13, 14] (fun v13 v14 wq => ∃ (i : Nat) (N : Int), i ≤ K ∧ 0 ≤ N ∧ N < 16777216 ∧ v14 = .int .i64 i ∧ v13 = .int .i64 N ∧ Hid (N = hiV xn K i ∧ JB R V w ar P a L (fun i => (Value.slice (some ⟨g, 0, none⟩) m c).ownBlock = some i ∨ i = g9) wq (pj + i) ∧ wq.heap[g9]? = some (.cells #[.int .i64 xd, .int .i64 xn, .int .i64 (K : Int), .slice xA q3 xc] 33 (0, 0)) ∧ RowA wq w (some ⟨g, 0, none⟩) m c T)) (fun _ v _ => K - (intOf v).toNat)
              case atStart => exact ⟨0, 0, Nat.zero_le _, by omega, by omega, rfl, rfl, (show _ ∧ _ from ⟨by unfold hiV; rw [Nat.sub_zero]; exact HND.out.symm, H9b.out⟩)⟩
              case round =>
                obtain ⟨i, N, hi, hN0, hN1, rfl, rfl, HN⟩ := hrel
                clear H9b
                have f1 : wr.cell? ⟨g9, 1, none⟩ = some (.int .i64 xn) := (cellAt HN.out.2.2.1 1).trans rfl
                have f2 : wr.cell? ⟨g9, 2, none⟩ = some (.int .i64 (K : Int)) := (cellAt HN.out.2.2.1 2).trans rfl
                by_cases hlti : i < K
                · have htb := take_bit (A := encT (T.take j)) (B := E) (C := encT (T.drop (j + 1)) ++ Z) (k := i) (x := xn / 2 ^ (K - 1 - i) % 2) (by rw [HEE.out]; exact rev_get hlti)
                  rw [← HB.out.1, ← HB.out.2.1] at htb
                  have hst := hiV_step (n := xn) hlti
                  rw [← HN.out.1] at hst
                  obtain ⟨bt, hbt⟩ : ∃ bt, bt = xn / 2 ^ (K - 1 - i) % 2 := ⟨_, rfl⟩
                  rw [← hbt] at htb hst
                  have hb01 : 0 ≤ bt ∧ bt ≤ 1 := by omega
                  obtain ⟨hb0, hb1⟩ := hb01
                  have hle : hiV xn K (i + 1) ≤ xn := by unfold hiV; exact Int.ediv_le_self _ hxn0
                  have HST := Lib.hid hst
                  have hn2 : 2 * N + bt < 16777216 := by omega
                  have HTK := Lib.hid (HN.out.2.1.take HPP.out 1 (by omega))
                  rw [htb.1, htb.2] at HTK
                  clear htb hst hbt hle
                  go_wp2_with fail
                  refine HTK.out.mono ?_
                  rintro e w10 ⟨rfl, hk10, hj10⟩
                  have HZ := Lib.hid (⟨HST.out.symm, hj10, (hk10 g9 (Or.inr rfl)).trans HN.out.2.2.1, HN.out.2.2.2.kp (fun g hg => hk10 g (Or.inl hg))⟩ : 2 * N + bt = hiV xn K (i + 1) ∧ JB R V w ar P a L (fun i => (Value.slice (some ⟨g, 0, none⟩) m c).ownBlock = some i ∨ i = g9) w10 (pj + (i + 1)) ∧ w10.heap[g9]? = some (.cells #[.int .i64 xd, .int .i64 xn, .int .i64 (K : Int), .slice xA q3 xc] 33 (0, 0)) ∧ RowA w10 w (some ⟨g, 0, none⟩) m c T)
                  clear hk10 hj10 HTK f1 f2
                  go_wp2_with fail
                  go_roundw
                  case rel => exact ⟨i + 1, 2 * N + bt, by omega, by omega, by omega, by go_num, by go_num, HZ⟩
                  case measure => simp [intOf]; omega
                · obtain rfl : i = K := by omega
                  have hNx : N = xn := by rw [HN.out.1]; unfold hiV; rw [Nat.sub_self]; simp
                  subst hNx
                  have HZ := Lib.hid (⟨by rw [HB.out.2.2.2.1]; exact HN.out.2.1.less (fun i e => Or.inl e), HN.out.2.2.2⟩ : JB R V w ar P a L (fun i => (Value.slice (some ⟨g, 0, none⟩) m c).ownBlock = some i) wr (encT (T.take (j + 1))).length ∧ RowA wr w (some ⟨g, 0, none⟩) m c T)
                  go_wp2_with fail
                  go_roundw
                  case rel => exact ⟨j + 1, by omega, by go_num, HZ⟩
                  case measure => simp [intOf]; omega
          · obtain rfl : j = m := by omega
            have hTt : (encT (T.take j)).length = L.length := by rw [List.take_of_length_le (by rw [← HRW.out.1]; exact Nat.le_refl _), HLL.out.1]
            have HJE := Lib.hid HQ.out.1
            rw [hTt] at HJE
            obtain ⟨nl, hnl⟩ : ∃ nl, nl = L.length := ⟨_, rfl⟩
            have HAT := Lib.hid (HJE.out.at_ HPP.out)
            have HNLL := Lib.hid hnl
            rw [← hnl] at HAT
            clear hTt hnl
            go_wp2_with fail
            refine HAT.out.mono ?_
            rintro e w11 ⟨rfl, h11⟩
            have HLE := Lib.hid (h11.len HPP.out)
            rw [← HNLL.out] at HLE
            clear h11 HAT
            go_wp2_with fail
            refine HLE.out.mono ?_
            rintro e w12 ⟨rfl, h12⟩
            have HF := Lib.hid h12.fr
            clear h12
            go_wp2_with fail
            go_ret
            exact ⟨rfl, HF.out⟩
end
end Go.Proofs.Ytddkgihobcjmmaa.fl
