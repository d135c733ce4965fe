/-
  FlowWrites over what is asked of the program's writer.
-/
import Derived.Test.YtddkgihobcjmmaaFlV
import Derived.Test.YtddkgihobcjmmaaFlR
import Derived.Maps.AppendAt
import Derived.Deep.DeepCutAuto
import Derived.Deep.CutBlock
namespace Go.Proofs.Ytddkgihobcjmmaa.fl
set_option maxRecDepth 100000
open Go.RowKit Go.Maps
set_option maxRecDepth 100000

/-- The law's list of bits. -/
def RowL (w w0 : World) (p : Option Addr) (m c : Nat) (L : List Int) : Prop := w.ownsRow w0.heap.size 3 1 (.slice p m c) m (is L)
theorem RowL.kp {w w' w0 : World} {p : Option Addr} {m c : Nat} {L : List Int} (h : RowL w w0 p m c L) (hk : ∀ g, (Value.slice p m c).ownBlock = some g → w'.heap[g]? = w.heap[g]?) : RowL w' w0 p m c L := by
  obtain ⟨h1, h2⟩ := h
  refine ⟨h1, ?_⟩
  rcases h2 with h2 | ⟨g, cap, cur, hv, hg, hh, r⟩
  · exact Or.inl h2
  · exact Or.inr ⟨g, cap, cur, hv, hg, (hk g (by rw [hv]; rfl)).trans hh, r⟩
theorem RowL.fr {w w' w0 : World} {p : Option Addr} {m c : Nat} {L : List Int} (h : RowL w w0 p m c L) (hF : Fr (fun _ => False) w w') : RowL w' w0 p m c L := h.kp (fun g hg => hF.block g (World.ownsRow.lt h g hg).2 id)
theorem rdI_own {w : World} {B nb cb : Nat} {A : Option Addr} {l : List Int} (h : OwnI w B (.slice A nb cb) l) (hn : nb = l.length) (hb : AllBit l) : RdI w w.heap.size A l := by
  subst hn
  exact OwnI.rd h (bit_i64 hb)
theorem fr_keep2 {w w' : World} {g : Nat} {o : Obj} (h : w.heap[g]? = some o) (hF : Fr (fun _ => False) w w') : w'.heap[g]? = some o := (hF.block g (Array.getElem?_eq_some_iff.1 h).1 id).trans h
theorem run_make_ints (n : Nat) (h : n ≤ 1000) (w : World) :
    (Instr.makeSlice 28 (.int .i64 (n : Int)) (.int .i64 (n : Int))).run Try.prog w = .ok (.slice (some ⟨w.heap.size, 0, none⟩) n n) (w.alloc (.cells (is (List.replicate n 0)).toArray 3)) := by
  obtain ⟨i0, hi, hz0, hz1, hz2⟩ := info_parts infoI
  have hr := run_make (P := Try.prog) w 28 3 i0 (.int .i64 0) Try.underlying28 hi hz0 .i64 .i64 n n (by omega) (by omega) (by rw [hz2]; omega) (by omega)
  rw [hr, Int.toNat_natCast, hz1, Nat.mul_one]
  have : madeCells (Value.int .i64 0).cells n = (is (List.replicate n 0)).toArray := by
    apply Array.toList_inj.1
    unfold is
    rw [List.map_replicate]
    exact toList_madeCells_one _ _
  rw [this]

theorem rdI_src {w : World} {B : Nat} {ad : Addr} {l : List Int} (h : RdI w B (some ad) l) : ∀ j u, (is l)[j]? = some u → w.cell? (ad.add j) = some u := by
  intro j u hu
  rw [is_get] at hu
  obtain ⟨x, hx, rfl⟩ := Option.map_eq_some_iff.1 hu
  obtain ⟨blk, off, e, _, hc⟩ := h.1 (by rintro rfl; simp at hx)
  cases e
  rw [add_plain]
  exact hc j x hx

section
variable {R : RP} {V : VP}
theorem rowL_snoc (HP : FlowP R V) {w0 wc w' : World} {a : Addr} {p : Option Addr} {m c nb : Nat} {L B : List Int} {v : Value} (hm : m = L.length) (hb : nb = B.length) (hj : JW V w0 a (fun i => (Value.slice p m c).ownBlock = some i) wc (L ++ B)) (hown : w'.ownsRow w0.heap.size 3 1 v (m + nb) (is L ++ is B)) (hg : wc.grownBy w' (Value.slice p m c).ownBlock) (hat : v.ownBlock = (Value.slice p m c).ownBlock ∨ v.ownBlock = some wc.heap.size) :
    ∃ p' c', v = .slice p' (m + nb) c' ∧ RowL w' w0 p' (m + nb) c' (L ++ B) ∧ JW V w0 a (fun i => (Value.slice p' (m + nb) c').ownBlock = some i) w' (L ++ B) := by
  have hl : m + nb = (L ++ B).length := by rw [List.length_append, ← hm, ← hb]
  obtain ⟨p', c', e, h⟩ := OwnI.shape (l := L ++ B) hl (is_append L B).symm hown
  rw [← hl] at e h
  subst e
  unfold OwnI at h
  rw [← hl] at h
  refine ⟨p', c', rfl, h, ?_⟩
  have hF : Fr (fun i => (Value.slice p m c).ownBlock = some i) wc w' := (Fr.refl _ wc).grown hg (fun q e => Or.inl e)
  refine (hj.fresh HP hF).less (fun i e => ?_)
  rcases hat with h2 | h2
  · exact Or.inl (by rw [← h2]; exact e)
  · have hlt := World.ownsRow.lt h i e
    rw [h2] at e
    have e2 : wc.heap.size = i := Option.some.inj e
    exact Or.inr ⟨by omega, hlt.2⟩
set_option maxHeartbeats 8000000 in
theorem writes_walk (HP : FlowP R V) (w : World) (Aa : Option Addr) (ca : Nat) (acts : List AF) (ha : ActsF w w.heap.size Aa acts) :
    Calls Try.prog 4 #[.slice Aa acts.length ca] w fun e w' => e = .returned (.bool true) ∧ Fr (fun _ => False) w w' := by
  have HPP := Lib.hid HP
  have HAC := Lib.hid ha
  obtain ⟨na, hna⟩ : ∃ na, na = acts.length := ⟨_, rfl⟩
  have HNA := Lib.hid hna
  have hna3 : na ≤ 9223372036854775807 := by rw [hna]; exact ha.len
  rw [← hna]
  obtain ⟨i0, hi, hz0, hz1, hz2⟩ := info_parts infoI
  have HI := Lib.hid (⟨hi, hz0, hz1, hz2⟩ : _ ∧ _ ∧ _ ∧ _)
  clear HP ha hna hi hz0 hz1 hz2
  go_enter Try.func4, Try.ntmps4
  go_wp2_with fail
  refine (HPP.out.write w).mono ?_
  rintro e w1 ⟨a, S, rfl, hV, hS, hF1⟩
  have hJ1 : JW V w a (fun _ => False) w1 [] := ⟨⟨S, hV, fun i hi => ⟨hS i hi, id⟩⟩, hF1, fun i e => e.elim⟩
  have hs1 : (w1.alloc (.cells #[] 3)).heap.size = w1.heap.size + 1 := World.size_alloc _ _
  have hrow1 : RowL (w1.alloc (.cells #[] 3)) w (some ⟨w1.heap.size, 0, none⟩) 0 0 [] := World.ownsRow_made w1 #[] 0 hF1.size (Nat.zero_le _) (by simp)
  have hJ2 := (hJ1.fresh HPP.out ((Fr.refl _ w1).alloc (.cells #[] 3))).less (Y := fun i => (Value.slice (some ⟨w1.heap.size, 0, none⟩) 0 0).ownBlock = some i) (fun i e => Or.inr (by have e2 : w1.heap.size = i := Option.some.inj e; omega))
  have H2 := Lib.hid (⟨hJ2, hrow1⟩ : _ ∧ _)
  clear hV hS hF1 hJ1 hs1 hrow1 hJ2
  go_wp2_with fail
  go_loopw [4, 5] (fun v4 v5 wr => ∃ (k m c : Nat) (p : Option Addr) (L : List Int), k ≤ na ∧ k ≤ 200 ∧ m ≤ 400 * k ∧ v5 = .int .i64 k ∧ v4 = .slice p m c ∧ Hid (m = L.length ∧ JW V w a (fun i => (Value.slice p m c).ownBlock = some i) wr L ∧ RowL wr w p m c L)) (fun _ v _ => na - (intOf v).toNat)
  case atStart => exact ⟨0, 0, 0, _, [], Nat.zero_le _, Nat.zero_le _, Nat.zero_le _, rfl, rfl, (show _ ∧ _ from ⟨rfl, H2.out.1, H2.out.2⟩)⟩
  case round =>
    obtain ⟨k, m, c, p, L, hk, hk2, hm, rfl, rfl, HK⟩ := hrel
    clear H2
    by_cases hlt : k < na ∧ k < 200
    · obtain ⟨hl1, hl2⟩ := hlt
      have hl3 : (k : Int) < 200 := by omega
      obtain ⟨x, hx⟩ : ∃ x, acts[k]? = some x := ⟨_, List.getElem?_eq_getElem (by have := HNA.out; omega)⟩
      obtain ⟨blk, off, rfl, c0, c1, c2, c3⟩ := HAC.out.at_ hx HK.out.2.1.fr (Nat.le_refl _) (fun _ _ e => e)
      have HOK := Lib.hid (HAC.out.ok x (List.mem_of_getElem? hx))
      obtain ⟨xd, xn, xb, xA, xc, xl⟩ := x
      obtain ⟨q3, hq3⟩ : ∃ q3, q3 = xl.length := ⟨_, rfl⟩
      have HQ3 := Lib.hid hq3
      have c3' : wr.cell? ⟨blk, off + k * 4 + 3, none⟩ = some (.slice xA q3 xc) := by rw [hq3]; exact c3
      have HAM := Lib.hid (fun w2 : World => among_nat w2 xd 6 (by omega) (by omega))
      obtain ⟨g9, hg9⟩ : ∃ g9, g9 = wr.heap.size := ⟨_, rfl⟩
      obtain ⟨w10, hw10⟩ : ∃ w10, w10 = (wr.alloc (.cells #[.int .i64 xd, .int .i64 xn, .int .i64 xb, .slice xA q3 xc] 33)).alloc (.cells #[] 3) := ⟨_, rfl⟩
      have hF10 : Fr (fun _ => False) wr w10 := by rw [hw10]; exact ((Fr.refl _ wr).alloc _).alloc _
      have hJ10 := HK.out.2.1.fresh HPP.out (hF10.mono (fun _ _ e => e.elim))
      have hB10 : w10.heap[g9]? = some (.cells #[.int .i64 xd, .int .i64 xn, .int .i64 xb, .slice xA q3 xc] 33 (0, 0)) := by rw [hw10, hg9]; exact heap_alloc_keep (heap_alloc_new wr _)
      have HF10 := Lib.hid hF10
      have e9 : (wr.alloc (.cells #[.int .i64 xd, .int .i64 xn, .int .i64 xb, .slice xA q3 xc] 33)).heap.size = wr.heap.size + 1 := World.size_alloc _ _
      clear c3 hx hq3 hF10
      go_wp2_with fail
      rw [← hg9, ← hw10]
      have H10 := Lib.hid (⟨hJ10, by rw [← HK.out.1]; omega, HK.out.2.2.fr HF10.out, HK.out.1⟩ : JW V w a (fun i => (Value.slice p m c).ownBlock = some i ∨ (wr.heap.size ≤ i ∧ i < w10.heap.size)) w10 L ∧ L.length ≤ 80000 ∧ RowL w10 w p m c L ∧ m = L.length)
      have HB10 := Lib.hid hB10
      have d0 : w10.cell? ⟨g9, 0, none⟩ = some (.int .i64 xd) := (cellAt hB10 0).trans rfl
      have d1 : w10.cell? ⟨g9, 1, none⟩ = some (.int .i64 xn) := (cellAt hB10 1).trans rfl
      have d2 : w10.cell? ⟨g9, 2, none⟩ = some (.int .i64 xb) := (cellAt hB10 2).trans rfl
      have d3 : w10.cell? ⟨g9, 3, none⟩ = some (.slice xA q3 xc) := (cellAt hB10 3).trans rfl
      have hm80 : m ≤ 80000 := by omega
      clear hJ10 hB10 hw10 hg9 c0 c1 c2 c3' e9
      refine (HAM.out w10).mono ?_
      rintro e w' ⟨kk, hkk, rfl, rfl⟩
      go_upto_block 2 with (fail)
      go_cut [7, 8, 9] (fun s7 s8 s9 wz => ∃ (pb : Option Addr) (nb cb : Nat) (okb : Bool) (ez : Int) (Bts : List Int), s7 = .slice pb nb cb ∧ s8 = .bool okb ∧ s9 = .int .i64 ez ∧ ((okb = true ∧ ez = 0) ∨ (okb = false ∧ ez = 2)) ∧ Hid (nb = Bts.length ∧ nb ≤ 400 ∧ (RdI wz wz.heap.size pb Bts ∧ (pb = none → cb = 0)) ∧ JW V w a (fun i => (Value.slice p m c).ownBlock = some i) wz (if okb = true then L ++ Bts else L) ∧ RowL wz w p m c L))
      case first =>
        have h6 : kk = 0 ∨ kk = 1 ∨ kk = 2 ∨ kk = 3 ∨ kk = 4 ∨ kk = 5 := by omega
        clear hkk HK
        rcases h6 with rfl | rfl | rfl | rfl | rfl | rfl
        · as_aux_lemma =>
            have HLO := Lib.hid (rlow w10 xn xb HOK.out.n.2)
            obtain ⟨Bts, hB⟩ : ∃ Bts, Bts = lowL xn xb := ⟨_, rfl⟩
            obtain ⟨okb, hokb⟩ : ∃ okb, okb = lowB xn xb := ⟨_, rfl⟩
            have HB := Lib.hid (⟨hB, hokb, by rw [hB]; exact lowL_len xn xb, by rw [hB]; exact lowL_bits xn xb⟩ : Bts = lowL xn xb ∧ okb = lowB xn xb ∧ Bts.length ≤ 24 ∧ AllBit Bts)
            rw [← hB, ← hokb] at HLO
            obtain ⟨nb, hnb⟩ : ∃ nb, nb = Bts.length := ⟨_, rfl⟩
            have HNB := Lib.hid hnb
            clear hB hokb hnb
            go_wp2_with fail
            refine HLO.out.mono ?_
            rintro e w11 ⟨Ab, cb, rfl, ho, hF⟩
            have hcap := own_cap2 ho
            rw [← HNB.out] at ho ⊢
            have hJ11 := H10.out.1.fresh HPP.out (hF.mono (fun _ _ e => e.elim))
            have hb11 := fr_keep2 HB10.out hF
            have e1 : w11.cell? ⟨g9, 1, none⟩ = some (.int .i64 xn) := (cellAt hb11 1).trans rfl
            have e2 : w11.cell? ⟨g9, 2, none⟩ = some (.int .i64 xb) := (cellAt hb11 2).trans rfl
            have H11 := Lib.hid (⟨ho, H10.out.2.2.1.fr hF, hcap, hF⟩ : _ ∧ _ ∧ _ ∧ _)
            have HPU := Lib.hid (hJ11.put HPP.out xn xb (by have := H10.out.2.1; omega) HOK.out.n HOK.out.bits)
            obtain ⟨ez, hez⟩ : ∃ ez, ez = putZ xn xb := ⟨_, rfl⟩
            have HEZ := Lib.hid hez
            rw [← hez] at HPU
            clear ho hF hJ11 hb11 hez HLO hcap d0 d1 d2 d3
            go_wp2_with fail
            refine HPU.out.mono ?_
            rintro e w12 ⟨rfl, hk, hj⟩
            have hown12 : OwnI w12 w10.heap.size (.slice Ab nb cb) Bts := by
              have h := H11.out.1
              exact ownI_kp h (fun g hg => hk g (Or.inr (World.ownsRow.lt h g hg)))
            have hrow12 := H11.out.2.1.kp (fun g hg => hk g (Or.inl (Or.inl hg)))
            have hcase : (okb = true ∧ ez = 0) ∨ (okb = false ∧ ez = 2) := by
              rw [HEZ.out]
              unfold putZ
              rw [← HB.out.2.1]
              cases okb
              · exact Or.inr ⟨rfl, rfl⟩
              · exact Or.inl ⟨rfl, rfl⟩
            have hJ12 : JW V w a (fun i => (Value.slice p m c).ownBlock = some i) w12 (if okb = true then L ++ Bts else L) := by
              have h := hj.less (Y := fun i => (Value.slice p m c).ownBlock = some i) (fun i e => Or.inl (Or.inl e))
              unfold putL' at h
              rw [← HB.out.1, ← HB.out.2.1] at h
              exact h
            have HZ := Lib.hid (⟨hcase, HNB.out, by have := HB.out.2.2.1; have := HNB.out; omega, And.intro (rdI_own hown12 HNB.out HB.out.2.2.2) H11.out.2.2.1.1, hJ12, hrow12⟩ : _ ∧ _ ∧ nb ≤ 400 ∧ _ ∧ _ ∧ _)
            clear hk hj hown12 hrow12 hcase hJ12 e1 e2 HPU
            go_wp2_with fail
            go_meet
            exact ⟨Ab, nb, cb, okb, ez, Bts, rfl, rfl, rfl, HZ.out.1, (show _ ∧ _ from HZ.out.2)⟩
        · as_aux_lemma =>
            have HLO := Lib.hid (rlow w10 xn xb HOK.out.n.2)
            obtain ⟨Bts, hB⟩ : ∃ Bts, Bts = lowL xn xb := ⟨_, rfl⟩
            obtain ⟨okb, hokb⟩ : ∃ okb, okb = lowB xn xb := ⟨_, rfl⟩
            have HB := Lib.hid (⟨hB, hokb, by rw [hB]; exact lowL_len xn xb, by rw [hB]; exact lowL_bits xn xb⟩ : Bts = lowL xn xb ∧ okb = lowB xn xb ∧ Bts.length ≤ 24 ∧ AllBit Bts)
            rw [← hB, ← hokb] at HLO
            obtain ⟨nb, hnb⟩ : ∃ nb, nb = Bts.length := ⟨_, rfl⟩
            have HNB := Lib.hid hnb
            clear hB hokb hnb
            go_wp2_with fail
            refine HLO.out.mono ?_
            rintro e w11 ⟨Ab, cb, rfl, ho, hF⟩
            have hcap := own_cap2 ho
            rw [← HNB.out] at ho ⊢
            have hJ11 := H10.out.1.fresh HPP.out (hF.mono (fun _ _ e => e.elim))
            have hb11 := fr_keep2 HB10.out hF
            have e1 : w11.cell? ⟨g9, 1, none⟩ = some (.int .i64 xn) := (cellAt hb11 1).trans rfl
            have e2 : w11.cell? ⟨g9, 2, none⟩ = some (.int .i64 xb) := (cellAt hb11 2).trans rfl
            have H11 := Lib.hid (⟨ho, H10.out.2.2.1.fr hF, hcap, hF⟩ : _ ∧ _ ∧ _ ∧ _)
            have HPU := Lib.hid (hJ11.put HPP.out xn xb (by have := H10.out.2.1; omega) HOK.out.n HOK.out.bits)
            obtain ⟨ez, hez⟩ : ∃ ez, ez = putZ xn xb := ⟨_, rfl⟩
            have HEZ := Lib.hid hez
            rw [← hez] at HPU
            clear ho hF hJ11 hb11 hez HLO hcap d0 d1 d2 d3
            go_wp2_with fail
            refine HPU.out.mono ?_
            rintro e w12 ⟨rfl, hk, hj⟩
            have hown12 : OwnI w12 w10.heap.size (.slice Ab nb cb) Bts := by
              have h := H11.out.1
              exact ownI_kp h (fun g hg => hk g (Or.inr (World.ownsRow.lt h g hg)))
            have hrow12 := H11.out.2.1.kp (fun g hg => hk g (Or.inl (Or.inl hg)))
            have hcase : (okb = true ∧ ez = 0) ∨ (okb = false ∧ ez = 2) := by
              rw [HEZ.out]
              unfold putZ
              rw [← HB.out.2.1]
              cases okb
              · exact Or.inr ⟨rfl, rfl⟩
              · exact Or.inl ⟨rfl, rfl⟩
            have hJ12 : JW V w a (fun i => (Value.slice p m c).ownBlock = some i) w12 (if okb = true then L ++ Bts else L) := by
              have h := hj.less (Y := fun i => (Value.slice p m c).ownBlock = some i) (fun i e => Or.inl (Or.inl e))
              unfold putL' at h
              rw [← HB.out.1, ← HB.out.2.1] at h
              exact h
            have HZ := Lib.hid (⟨hcase, HNB.out, by have := HB.out.2.2.1; have := HNB.out; omega, And.intro (rdI_own hown12 HNB.out HB.out.2.2.2) H11.out.2.2.1.1, hJ12, hrow12⟩ : _ ∧ _ ∧ nb ≤ 400 ∧ _ ∧ _ ∧ _)
            clear hk hj hown12 hrow12 hcase hJ12 e1 e2 HPU
            go_wp2_with fail
            go_meet
            exact ⟨Ab, nb, cb, okb, ez, Bts, rfl, rfl, rfl, HZ.out.1, (show _ ∧ _ from HZ.out.2)⟩
        · as_aux_lemma =>
            have HLO := Lib.hid (rhigh w10 xn xb HOK.out.n.2)
            obtain ⟨Bts, hB⟩ : ∃ Bts, Bts = (lowL xn xb).reverse := ⟨_, rfl⟩
            obtain ⟨okb, hokb⟩ : ∃ okb, okb = lowB xn xb := ⟨_, rfl⟩
            have HB := Lib.hid (⟨hB, hokb, by rw [hB]; rw [List.length_reverse]; exact lowL_len xn xb, by rw [hB]; exact fun x hx => lowL_bits xn xb x (List.mem_reverse.1 hx)⟩ : Bts = (lowL xn xb).reverse ∧ okb = lowB xn xb ∧ Bts.length ≤ 24 ∧ AllBit Bts)
            rw [← hB, ← hokb] at HLO
            obtain ⟨nb, hnb⟩ : ∃ nb, nb = Bts.length := ⟨_, rfl⟩
            have HNB := Lib.hid hnb
            clear hB hokb hnb
            go_wp2_with fail
            refine HLO.out.mono ?_
            rintro e w11 ⟨Ab, cb, rfl, ho, hF⟩
            have hcap := own_cap2 ho
            rw [← HNB.out] at ho ⊢
            have hJ11 := H10.out.1.fresh HPP.out (hF.mono (fun _ _ e => e.elim))
            have hb11 := fr_keep2 HB10.out hF
            have e1 : w11.cell? ⟨g9, 1, none⟩ = some (.int .i64 xn) := (cellAt hb11 1).trans rfl
            have e2 : w11.cell? ⟨g9, 2, none⟩ = some (.int .i64 xb) := (cellAt hb11 2).trans rfl
            have H11 := Lib.hid (⟨ho, H10.out.2.2.1.fr hF, hcap, hF⟩ : _ ∧ _ ∧ _ ∧ _)
            have HPU := Lib.hid (hJ11.code HPP.out xn xb (by have := H10.out.2.1; omega) HOK.out.n HOK.out.bits)
            obtain ⟨ez, hez⟩ : ∃ ez, ez = putZ xn xb := ⟨_, rfl⟩
            have HEZ := Lib.hid hez
            rw [← hez] at HPU
            clear ho hF hJ11 hb11 hez HLO hcap d0 d1 d2 d3
            go_wp2_with fail
            refine HPU.out.mono ?_
            rintro e w12 ⟨rfl, hk, hj⟩
            have hown12 : OwnI w12 w10.heap.size (.slice Ab nb cb) Bts := by
              have h := H11.out.1
              exact ownI_kp h (fun g hg => hk g (Or.inr (World.ownsRow.lt h g hg)))
            have hrow12 := H11.out.2.1.kp (fun g hg => hk g (Or.inl (Or.inl hg)))
            have hcase : (okb = true ∧ ez = 0) ∨ (okb = false ∧ ez = 2) := by
              rw [HEZ.out]
              unfold putZ
              rw [← HB.out.2.1]
              cases okb
              · exact Or.inr ⟨rfl, rfl⟩
              · exact Or.inl ⟨rfl, rfl⟩
            have hJ12 : JW V w a (fun i => (Value.slice p m c).ownBlock = some i) w12 (if okb = true then L ++ Bts else L) := by
              have h := hj.less (Y := fun i => (Value.slice p m c).ownBlock = some i) (fun i e => Or.inl (Or.inl e))
              unfold codeL at h
              rw [← HB.out.1, ← HB.out.2.1] at h
              exact h
            have HZ := Lib.hid (⟨hcase, HNB.out, by have := HB.out.2.2.1; have := HNB.out; omega, And.intro (rdI_own hown12 HNB.out HB.out.2.2.2) H11.out.2.2.1.1, hJ12, hrow12⟩ : _ ∧ _ ∧ nb ≤ 400 ∧ _ ∧ _ ∧ _)
            clear hk hj hown12 hrow12 hcase hJ12 e1 e2 HPU
            go_wp2_with fail
            go_meet
            exact ⟨Ab, nb, cb, okb, ez, Bts, rfl, rfl, rfl, HZ.out.1, (show _ ∧ _ from HZ.out.2)⟩
        · as_aux_lemma =>
            have HAL := Lib.hid (H10.out.1.align HPP.out (by have := H10.out.2.1; omega))
            go_wp2_with fail
            refine HAL.out.mono ?_
            rintro e w12 ⟨rfl, hk, hj⟩
            obtain ⟨r8, hr8⟩ : ∃ r8, r8 = m % 8 := ⟨_, rfl⟩
            obtain ⟨nb, hnb⟩ : ∃ nb, nb = (8 - r8) % 8 := ⟨_, rfl⟩
            have hm1 : ((m : Int)).tmod 8 = (r8 : Int) := by rw [hr8]; rfl
            have hm2 : ((8 : Int) - (r8 : Int)).tmod 8 = (nb : Int) := by rw [show (8 : Int) - (r8 : Int) = ((8 - r8 : Nat) : Int) by omega, hnb]; rfl
            have hmk := run_make_ints nb (by omega)
            have hrow12 := H10.out.2.2.1.kp (fun g hg => hk g (Or.inl hg))
            have hZB : (List.replicate nb (0 : Int)).length = nb := List.length_replicate
            have hF13 : ∀ wx : World, Fr (fun _ => False) wx (wx.alloc (.cells (is (List.replicate nb 0)).toArray 3)) := fun wx => (Fr.refl _ wx).alloc _
            have hown := fun wx : World => ownI_made wx (List.replicate nb 0) (by rw [hZB]; unfold maxLen; omega)
            rw [hZB] at hown
            have HZ := Lib.hid (⟨hZB.symm, by omega, ⟨rdI_own (hown w12) hZB.symm (zeros_bits nb), fun e => by cases e⟩, (by
              have h := (hj.less (Y := fun i => (Value.slice p m c).ownBlock = some i) (fun i e => Or.inl e)).still HPP.out (hF13 w12)
              unfold padL at h
              rw [← H10.out.2.2.2, ← hr8, ← hnb] at h
              exact h), hrow12.fr (hF13 w12)⟩ : nb = (List.replicate nb (0 : Int)).length ∧ nb ≤ 400 ∧ (RdI (w12.alloc (.cells (is (List.replicate nb 0)).toArray 3)) (w12.alloc (.cells (is (List.replicate nb 0)).toArray 3)).heap.size (some ⟨w12.heap.size, 0, none⟩) (List.replicate nb 0) ∧ ((some ⟨w12.heap.size, 0, none⟩ : Option Addr) = none → nb = 0)) ∧ JW V w a (fun i => (Value.slice p m c).ownBlock = some i) (w12.alloc (.cells (is (List.replicate nb 0)).toArray 3)) (if true = true then L ++ List.replicate nb 0 else L) ∧ RowL (w12.alloc (.cells (is (List.replicate nb 0)).toArray 3)) w p m c L)
            have hr8b : r8 < 8 := by omega
            have hnb8 : nb < 8 := by omega
            clear hk hj hrow12 hZB hF13 hown hr8 hnb HAL d0 d1 d2 d3
            go_wp2_with fail
            go_meet
            exact ⟨some ⟨w12.heap.size, 0, none⟩, nb, nb, true, 0, List.replicate nb 0, rfl, rfl, rfl, Or.inl ⟨rfl, rfl⟩, (show _ ∧ _ from HZ.out)⟩
        · skip
          go_upto_if 86 with (fail)
          go_cut [10] (fun s10 wz => ∃ (dd : List UInt8) (nd : Nat), s10 = .slice xA nd xc ∧ w10 = wz ∧ nd ≤ xc ∧ Hid (Rd w w.heap.size xA dd ∧ nd = dd.length ∧ nd ≤ 50))
          case first =>
            have hqc : q3 ≤ xc := by rw [HQ3.out]; exact HOK.out.cap
            have hq47 : q3 ≤ 140737488351232 := by rw [HQ3.out]; exact HOK.out.len
            by_cases hbig : (50 : Int) < q3
            · have hkc : 50 ≤ xc := by omega
              go_wp2_with fail
              go_meet
              exact ⟨xl.take 50, 50, rfl, rfl, hkc, (show _ ∧ _ from ⟨HOK.out.rd.take 50, by rw [List.length_take, ← HQ3.out]; omega, Nat.le_refl _⟩)⟩
            · have h3 : q3 ≤ 50 := by omega
              go_wp2_with fail
              go_meet
              exact ⟨xl, q3, rfl, rfl, hqc, (show _ ∧ _ from ⟨HOK.out.rd, HQ3.out, h3⟩)⟩
          obtain ⟨dd, nd, rfl, rfl, hnd, HDD⟩ := hcut
          have hnd50 := HDD.out.2.2
          obtain ⟨r8, hr8⟩ : ∃ r8, r8 = m % 8 := ⟨_, rfl⟩
          have hm1 : ((m : Int)).tmod 8 = (r8 : Int) := by rw [hr8]; rfl
          obtain ⟨okb, hokb⟩ : ∃ okb : Bool, okb = ((r8 : Int) == 0) := ⟨_, rfl⟩
          have HR8 := Lib.hid (⟨hr8, hokb⟩ : _ ∧ _)
          have hokb2 : ((r8 : Int) == 0) = okb := hokb.symm
          have HBT := Lib.hid (rbits w10 xA xc dd ((HDD.out.1.still H10.out.1.fr (Nat.le_refl _)).more H10.out.1.fr.size) (by have := HDD.out.2; omega))
          rw [← HDD.out.2.1] at HBT
          clear hr8 hokb
          go_wp2_with fail
          refine HBT.out.mono ?_
          rintro e w11 ⟨Ab, cb, rfl, ho, hF⟩
          have hJ11 := H10.out.1.fresh HPP.out (hF.mono (fun _ _ e => e.elim))
          have HWB := Lib.hid (hJ11.bytes HPP.out xA xc dd (by have := H10.out.2.1; omega) ((HDD.out.1.still hJ11.fr (Nat.le_refl _)).more hJ11.fr.size) HOK.out.none_ (by rw [← HDD.out.2.1]; exact hnd) (by have := HDD.out.2; omega))
          rw [← HDD.out.2.1] at HWB
          obtain ⟨nb, hnb⟩ : ∃ nb, nb = (bitsOf dd).length := ⟨_, rfl⟩
          have hnb2 : nb = 8 * nd := by rw [hnb, bitsOf_length, HDD.out.2.1]
          have hcap := own_cap2 ho
          rw [← hnb] at ho ⊢
          have H11 := Lib.hid (⟨ho, H10.out.2.2.1.fr hF, hcap, hnb, hnb2⟩ : _ ∧ _ ∧ _ ∧ _ ∧ _)
          obtain ⟨ez, hez⟩ : ∃ ez, ez = wbZ L := ⟨_, rfl⟩
          have HEZ := Lib.hid hez
          rw [← hez] at HWB
          clear ho hF hJ11 hez HBT hnb hnb2 hcap d0 d1 d2 d3
          go_wp2_with fail
          refine HWB.out.mono ?_
          rintro e w12 ⟨rfl, hk, hj⟩
          have hown12 : OwnI w12 w10.heap.size (.slice Ab nb cb) (bitsOf dd) := by
            have h := H11.out.1
            exact ownI_kp h (fun g hg => hk g (Or.inr (World.ownsRow.lt h g hg)))
          have hrow12 := H11.out.2.1.kp (fun g hg => hk g (Or.inl (Or.inl hg)))
          have hLm : L.length % 8 = r8 := by rw [← H10.out.2.2.2]; exact HR8.out.1.symm
          have hcase : (okb = true ∧ ez = 0) ∨ (okb = false ∧ ez = 2) := by
            rw [HEZ.out, HR8.out.2]
            unfold wbZ
            rw [hLm]
            by_cases h0 : r8 = 0
            · exact Or.inl ⟨by rw [h0]; rfl, if_pos h0⟩
            · exact Or.inr ⟨beq_eq_false_iff_ne.2 (by omega), if_neg h0⟩
          have hJ12 : JW V w a (fun i => (Value.slice p m c).ownBlock = some i) w12 (if okb = true then L ++ bitsOf dd else L) := by
            have h := hj.less (Y := fun i => (Value.slice p m c).ownBlock = some i) (fun i e => Or.inl (Or.inl e))
            unfold wbL at h
            rw [hLm] at h
            by_cases h0 : r8 = 0
            · rw [if_pos h0] at h
              rw [HR8.out.2, if_pos (by rw [h0]; rfl)]
              exact h
            · rw [if_neg h0] at h
              rw [HR8.out.2, if_neg (by rw [beq_eq_false_iff_ne.2 (by omega)]; simp)]
              exact h
          have HZ := Lib.hid (⟨hcase, H11.out.2.2.2.1, by have := H11.out.2.2.2.2; omega, And.intro (rdI_own hown12 H11.out.2.2.2.1 (bitsOf_bits dd)) H11.out.2.2.1.1, hJ12, hrow12⟩ : _ ∧ _ ∧ nb ≤ 400 ∧ _ ∧ _ ∧ _)
          clear hk hj hown12 hrow12 hcase hJ12 HWB hLm
          go_wp2_with fail
          go_meet
          exact ⟨Ab, nb, cb, okb, ez, bitsOf dd, rfl, rfl, rfl, HZ.out.1, (show _ ∧ _ from HZ.out.2)⟩
        · skip
          go_upto_if 86 with (fail)
          go_cut [10] (fun s10 wz => ∃ (dd : List UInt8) (nd : Nat), s10 = .slice xA nd xc ∧ w10 = wz ∧ nd ≤ xc ∧ Hid (Rd w w.heap.size xA dd ∧ nd = dd.length ∧ nd ≤ 50))
          case first =>
            have hqc : q3 ≤ xc := by rw [HQ3.out]; exact HOK.out.cap
            have hq47 : q3 ≤ 140737488351232 := by rw [HQ3.out]; exact HOK.out.len
            by_cases hbig : (50 : Int) < q3
            · have hkc : 50 ≤ xc := by omega
              go_wp2_with fail
              go_meet
              exact ⟨xl.take 50, 50, rfl, rfl, hkc, (show _ ∧ _ from ⟨HOK.out.rd.take 50, by rw [List.length_take, ← HQ3.out]; omega, Nat.le_refl _⟩)⟩
            · have h3 : q3 ≤ 50 := by omega
              go_wp2_with fail
              go_meet
              exact ⟨xl, q3, rfl, rfl, hqc, (show _ ∧ _ from ⟨HOK.out.rd, HQ3.out, h3⟩)⟩
          obtain ⟨dd, nd, rfl, rfl, hnd, HDD⟩ := hcut
          have hnd50 := HDD.out.2.2
          obtain ⟨r8, hr8⟩ : ∃ r8, r8 = m % 8 := ⟨_, rfl⟩
          have hm1 : ((m : Int)).tmod 8 = (r8 : Int) := by rw [hr8]; rfl
          obtain ⟨okb, hokb⟩ : ∃ okb : Bool, okb = ((r8 : Int) == 0) := ⟨_, rfl⟩
          have HR8 := Lib.hid (⟨hr8, hokb⟩ : _ ∧ _)
          have hokb2 : ((r8 : Int) == 0) = okb := hokb.symm
          have HBT := Lib.hid (rbits w10 xA xc dd ((HDD.out.1.still H10.out.1.fr (Nat.le_refl _)).more H10.out.1.fr.size) (by have := HDD.out.2; omega))
          rw [← HDD.out.2.1] at HBT
          clear hr8 hokb
          go_wp2_with fail
          refine HBT.out.mono ?_
          rintro e w11 ⟨Ab, cb, rfl, ho, hF⟩
          have hJ11 := H10.out.1.fresh HPP.out (hF.mono (fun _ _ e => e.elim))
          have HWB := Lib.hid (hJ11.bytes HPP.out xA xc dd (by have := H10.out.2.1; omega) ((HDD.out.1.still hJ11.fr (Nat.le_refl _)).more hJ11.fr.size) HOK.out.none_ (by rw [← HDD.out.2.1]; exact hnd) (by have := HDD.out.2; omega))
          rw [← HDD.out.2.1] at HWB
          obtain ⟨nb, hnb⟩ : ∃ nb, nb = (bitsOf dd).length := ⟨_, rfl⟩
          have hnb2 : nb = 8 * nd := by rw [hnb, bitsOf_length, HDD.out.2.1]
          have hcap := own_cap2 ho
          rw [← hnb] at ho ⊢
          have H11 := Lib.hid (⟨ho, H10.out.2.2.1.fr hF, hcap, hnb, hnb2⟩ : _ ∧ _ ∧ _ ∧ _ ∧ _)
          obtain ⟨ez, hez⟩ : ∃ ez, ez = wbZ L := ⟨_, rfl⟩
          have HEZ := Lib.hid hez
          rw [← hez] at HWB
          clear ho hF hJ11 hez HBT hnb hnb2 hcap d0 d1 d2 d3
          go_wp2_with fail
          refine HWB.out.mono ?_
          rintro e w12 ⟨rfl, hk, hj⟩
          have hown12 : OwnI w12 w10.heap.size (.slice Ab nb cb) (bitsOf dd) := by
            have h := H11.out.1
            exact ownI_kp h (fun g hg => hk g (Or.inr (World.ownsRow.lt h g hg)))
          have hrow12 := H11.out.2.1.kp (fun g hg => hk g (Or.inl (Or.inl hg)))
          have hLm : L.length % 8 = r8 := by rw [← H10.out.2.2.2]; exact HR8.out.1.symm
          have hcase : (okb = true ∧ ez = 0) ∨ (okb = false ∧ ez = 2) := by
            rw [HEZ.out, HR8.out.2]
            unfold wbZ
            rw [hLm]
            by_cases h0 : r8 = 0
            · exact Or.inl ⟨by rw [h0]; rfl, if_pos h0⟩
            · exact Or.inr ⟨beq_eq_false_iff_ne.2 (by omega), if_neg h0⟩
          have hJ12 : JW V w a (fun i => (Value.slice p m c).ownBlock = some i) w12 (if okb = true then L ++ bitsOf dd else L) := by
            have h := hj.less (Y := fun i => (Value.slice p m c).ownBlock = some i) (fun i e => Or.inl (Or.inl e))
            unfold wbL at h
            rw [hLm] at h
            by_cases h0 : r8 = 0
            · rw [if_pos h0] at h
              rw [HR8.out.2, if_pos (by rw [h0]; rfl)]
              exact h
            · rw [if_neg h0] at h
              rw [HR8.out.2, if_neg (by rw [beq_eq_false_iff_ne.2 (by omega)]; simp)]
              exact h
          have HZ := Lib.hid (⟨hcase, H11.out.2.2.2.1, by have := H11.out.2.2.2.2; omega, And.intro (rdI_own hown12 H11.out.2.2.2.1 (bitsOf_bits dd)) H11.out.2.2.1.1, hJ12, hrow12⟩ : _ ∧ _ ∧ nb ≤ 400 ∧ _ ∧ _ ∧ _)
          clear hk hj hown12 hrow12 hcase hJ12 HWB hLm
          go_wp2_with fail
          go_meet
          exact ⟨Ab, nb, cb, okb, ez, bitsOf dd, rfl, rfl, rfl, HZ.out.1, (show _ ∧ _ from HZ.out.2)⟩
      obtain ⟨pb, nb, cb, okb, ez, Bts, rfl, rfl, rfl, hcase, HC⟩ := hcut
      have hnb := HC.out.2.1
      clear d0 d1 d2 d3 H10 HB10 HF10
      rcases hcase with ⟨rfl, rfl⟩ | ⟨rfl, rfl⟩
      · have HJc : Hid (JW V w a (fun i => (Value.slice p m c).ownBlock = some i) wc (L ++ Bts)) := Lib.hid (by have h := HC.out.2.2.2.1; rwa [if_pos rfl] at h)
        cases pb with
        | none =>
          have hB0 : Bts = [] := by
            apply Decidable.byContradiction
            intro hne
            obtain ⟨_, _, e, _⟩ := HC.out.2.2.1.1.1 hne
            cases e
          obtain rfl : nb = 0 := by rw [HC.out.1, hB0]; rfl
          obtain rfl : cb = 0 := HC.out.2.2.1.2 rfl
          have HL2 := Lib.hid (show L ++ Bts = L by rw [hB0, List.append_nil])
          rw [HL2.out] at HJc
          have HLE := Lib.hid (HJc.out.len HPP.out)
          rw [← HK.out.1] at HLE
          clear hB0
          go_wp2_with (at_builtin; refine wpList_append_own_none rfl (.tmp 111) (.tmp 112) 28 rfl w.heap.size 3 i0 1 Try.underlying28 HI.out.1 _ _ _ rfl HC.out.2.2.2.2 rfl ?_)
          refine HLE.out.mono ?_
          rintro e w13 ⟨rfl, hC13⟩
          have HZ := Lib.hid (⟨HK.out.1, HJc.out.still HPP.out hC13.fr, HC.out.2.2.2.2.fr hC13.fr⟩ : _ ∧ _ ∧ _)
          clear hC13
          go_wp2_with fail
          go_roundw
          case rel => exact ⟨k + 1, m, c, p, L, by omega, by omega, by omega, by go_num, rfl, (show _ ∧ _ from HZ.out)⟩
          case measure => simp [intOf]; omega
        | some ad =>
          have HSR := Lib.hid (rdI_src HC.out.2.2.1.1)
          have HNBL := Lib.hid (show (is Bts).length = nb * 1 by rw [is_length, ← HC.out.1, Nat.mul_one])
          go_wp2_with (at_builtin; refine wpList_append_own_at _ rfl (.tmp 111) (.tmp 112) 28 rfl w.heap.size 3 i0 (.int .i64 0) 1 8 Try.underlying28 HI.out.1 HI.out.2.1 HI.out.2.2.1 HI.out.2.2.2 rfl (by omega) _ m (is L) rfl HC.out.2.2.2.2 ad nb cb (is Bts) rfl HNBL.out HSR.out (is_one _) (by unfold maxLen; omega) (by omega) HJc.out.fr.size ?_; intro v13 w13 hown hg _ hat; have HX := Lib.hid (rowL_snoc HPP.out HK.out.1 HC.out.1 HJc.out hown hg hat); clear hown hg hat; obtain ⟨p13, c13, hv13, hr13, hj13⟩ := HX.out; subst hv13)
          have HLE := Lib.hid (hj13.len HPP.out)
          rw [show (L ++ Bts).length = m + nb by rw [List.length_append, ← HK.out.1, ← HC.out.1]] at HLE
          refine HLE.out.mono ?_
          rintro e w14 ⟨rfl, hC14⟩
          have HZ := Lib.hid (⟨by rw [List.length_append, ← HK.out.1, ← HC.out.1], hj13.still HPP.out hC14.fr, hr13.fr hC14.fr⟩ : m + nb = (L ++ Bts).length ∧ JW V w a (fun i => (Value.slice p13 (m + nb) c13).ownBlock = some i) w14 (L ++ Bts) ∧ RowL w14 w p13 (m + nb) c13 (L ++ Bts))
          clear hC14 hj13 hr13 HX
          go_wp2_with fail
          go_roundw
          case rel => exact ⟨k + 1, m + nb, c13, p13, L ++ Bts, by omega, by omega, by omega, by go_num, rfl, (show _ ∧ _ from HZ.out)⟩
          case measure => simp [intOf]; omega
      · have HJc : Hid (JW V w a (fun i => (Value.slice p m c).ownBlock = some i) wc L) := Lib.hid (by have h := HC.out.2.2.2.1; rwa [if_neg (by simp)] at h)
        have HLE := Lib.hid (HJc.out.len HPP.out)
        rw [← HK.out.1] at HLE
        go_wp2_with fail
        refine HLE.out.mono ?_
        rintro e w13 ⟨rfl, hC13⟩
        have HZ := Lib.hid (⟨HK.out.1, HJc.out.still HPP.out hC13.fr, HC.out.2.2.2.2.fr hC13.fr⟩ : _ ∧ _ ∧ _)
        clear hC13
        go_wp2_with fail
        go_roundw
        case rel => exact ⟨k + 1, m, c, p, L, by omega, by omega, by omega, by go_num, rfl, (show _ ∧ _ from HZ.out)⟩
        case measure => simp [intOf]; omega
    · have hor : ¬ k < na ∨ (k < na ∧ ¬ (k : Int) < 200) := by omega
      have HK2 := Lib.hid (⟨HK.out.1, HK.out.2.1, HK.out.2.2, HK.out.2.1.bits HPP.out⟩ : _ ∧ _ ∧ _ ∧ AllBit L)
      have hm80 : m ≤ 80000 := by omega
      have HLL := Lib.hid (show L.length ≤ 80000 by rw [← HK.out.1]; exact hm80)
      have HAL := Lib.hid (HK.out.2.1.all HPP.out (by have := HLL.out; omega))
      obtain ⟨P, hP⟩ : ∃ P, P = packI L := ⟨_, rfl⟩
      obtain ⟨np, hnp⟩ : ∃ np, np = P.length := ⟨_, rfl⟩
      have HP2 := Lib.hid (⟨hP, hnp, by rw [hnp, hP, packI_length]; have := HLL.out; omega⟩ : P = packI L ∧ np = P.length ∧ np ≤ 10001)
      have hnp1 := HP2.out.2.2
      rw [← hP, ← hnp] at HAL
      clear hlt HK hP hnp hm hk hk2
      rcases hor with hor | ⟨hor1, hor2⟩
      all_goals
        go_wp2_with fail
        refine HAL.out.mono ?_
        rintro e w5 ⟨A, cap, rfl, ho, hk5, hj5⟩
        obtain ⟨sz, hsz⟩ : ∃ sz, sz = wr.heap.size := ⟨_, rfl⟩
        rw [← hsz] at ho
        have HLT := Lib.hid (show ∀ g, (Value.slice p m c).ownBlock = some g → g < sz from fun g hg => by rw [hsz]; exact (World.ownsRow.lt HK2.out.2.2.1 g hg).2)
        clear hsz
        have hrow5 := HK2.out.2.2.1.kp (fun g hg => hk5 g hg)
        have HAO := Lib.hid (⟨ho, hj5, hrow5⟩ : Own w5 sz (.slice A np cap) P ∧ JW V w a (fun i => (Value.slice p m c).ownBlock = some i ∨ (Value.slice A np cap).ownBlock = some i) w5 L ∧ RowL w5 w p m c L)
        have HPK : Hid (∀ wx, RowL wx w p m c L → Calls Try.prog 34 #[.slice p m c] wx fun e w' => ∃ A' cap', e = .returned (.slice A' np cap') ∧ Rd w' w'.heap.size A' P ∧ Fr (fun _ => False) wx w') := Lib.hid fun wx hrow => by
          have h := rpack wx p c L (rdI_own (by unfold OwnI; unfold RowL at hrow; rw [HK2.out.1] at hrow; exact hrow) rfl HK2.out.2.2.2) (by have := HLL.out; omega) HK2.out.2.2.2
          rw [← HK2.out.1, ← HP2.out.1, ← HP2.out.2.1] at h
          refine h.mono ?_
          rintro e w' ⟨A', cap', rfl, h1, h2⟩
          rw [HP2.out.2.1] at h1
          exact ⟨A', cap', rfl, Own.rd h1, h2⟩
        clear ho hk5 hj5 hrow5 HAL
        go_wp2_with fail
        refine (HPK.out w5 HAO.out.2.2).mono ?_
        rintro e w6 ⟨A6, cap6, rfl, hrd6, hF6⟩
        have HO6 : Hid (Own w6 sz (.slice A np cap) P ∧ JW V w a (fun i => (Value.slice p m c).ownBlock = some i ∨ (Value.slice A np cap).ownBlock = some i) w6 L ∧ RowL w6 w p m c L) := Lib.hid ⟨HAO.out.1.kept hF6, HAO.out.2.1.still HPP.out hF6, HAO.out.2.2.fr hF6⟩
        have HSB : Hid (Calls Try.prog 21 #[.slice A np cap, .slice A6 np cap6] w6 fun e w' => e = .returned (.bool true) ∧ Calm w6 w') := Lib.hid (by
          have h := HO6.out.1
          rw [HP2.out.2.1] at h
          have h2 := same_any w6 A A6 w6.heap.size w6.heap.size cap cap6 P P (Own.rd h) hrd6 (by rw [← HP2.out.2.1]; omega)
          rwa [decide_eq_true rfl, ← HP2.out.2.1] at h2)
        clear hrd6 hF6 HAO
        go_wp2_with fail
        refine HSB.out.mono ?_
        rintro e w7 ⟨rfl, hC⟩
        have H7 := Lib.hid (⟨P, HP2.out.2.1.symm, HO6.out.1.kept hC.fr, HO6.out.2.1.still HPP.out hC.fr, HO6.out.2.2.fr hC.fr⟩ : ∃ lst : List UInt8, lst.length = np ∧ Own w7 sz (.slice A np cap) lst ∧ JW V w a (fun i => (Value.slice p m c).ownBlock = some i ∨ (Value.slice A np cap).ownBlock = some i) w7 L ∧ RowL w7 w p m c L)
        clear hC HSB HO6
        go_wp2_with fail
        go_loopw [13] (fun v13 wq => ∃ j : Nat, j ≤ np ∧ v13 = .int .i64 j ∧ Hid (∃ lst : List UInt8, lst.length = np ∧ Own wq sz (.slice A np cap) lst ∧ JW V w a (fun i => (Value.slice p m c).ownBlock = some i ∨ (Value.slice A np cap).ownBlock = some i) wq L ∧ RowL wq w p m c L)) (fun v _ => np - (intOf v).toNat)
        case atStart => exact ⟨0, Nat.zero_le _, rfl, H7⟩
        case round =>
          obtain ⟨j, hj, rfl, HQ⟩ := hrel
          clear H7
          by_cases hltj : j < np
          · obtain ⟨lst, hll, hol, hjw, hrow⟩ := HQ.out
            have hol2 := hol
            rw [← hll] at hol2
            obtain ⟨g, rfl, hg, hg2, hc, hf, hset⟩ := Own.at_ hol2 (k := j) (by omega)
            have hnew := hset 255
            rw [List.length_set, hll] at hnew
            have hFg : Fr (fun i => i = g) wr (wr.setCell ⟨g, j, none⟩ (.int .u8 255)) := (Fr.refl (fun i => i = g) wr).setCell (p := ⟨g, j, none⟩) (Or.inl rfl) _
            have HNEW := Lib.hid (⟨lst.set j 255, by rw [List.length_set, hll], hnew, hjw.xaft HPP.out ((Fr.refl _ wr).setCell (p := ⟨g, j, none⟩) (Or.inl (Or.inr rfl)) (.int .u8 255)), hrow.kp (fun g' hg' => hFg.block g' (World.ownsRow.lt hrow g' hg').2 (fun e => by have := HLT.out g' hg'; omega))⟩ : ∃ lst : List UInt8, lst.length = np ∧ Own (wr.setCell ⟨g, j, none⟩ (.int .u8 255)) sz (.slice (some ⟨g, 0, none⟩) np cap) lst ∧ JW V w a (fun i => (Value.slice p m c).ownBlock = some i ∨ (Value.slice (some ⟨g, 0, none⟩) np cap).ownBlock = some i) (wr.setCell ⟨g, j, none⟩ (.int .u8 255)) L ∧ RowL (wr.setCell ⟨g, j, none⟩ (.int .u8 255)) w p m c L)
            generalize (lst[j]'(by omega)).toNat = z at hc
            clear hset hnew hol hol2 hll hg hg2 hjw hrow hFg
            go_wp2_with fail
            go_roundw
            case rel => exact ⟨j + 1, by omega, by go_num, HNEW⟩
            case measure => simp [intOf]; omega
          · obtain ⟨lst, hll, hol, hjw, hrow⟩ := HQ.out
            have HROW := Lib.hid hrow
            have HAL2 := Lib.hid ((hjw.less (Y := fun i => (Value.slice p m c).ownBlock = some i) (fun i e => Or.inl e)).all HPP.out (by have := HLL.out; omega))
            rw [← HP2.out.1, ← HP2.out.2.1] at HAL2
            clear hll hol hjw hrow
            go_wp2_with fail
            refine HAL2.out.mono ?_
            rintro e w8 ⟨A8, cap8, rfl, ho8, hk8, hj8⟩
            have HO8 := Lib.hid (⟨ho8, hj8.fr, HROW.out.kp (fun g hg => hk8 g hg)⟩ : _ ∧ _ ∧ RowL w8 w p m c L)
            clear ho8 hk8 hj8 HAL2
            go_wp2_with fail
            refine (HPK.out w8 HO8.out.2.2).mono ?_
            rintro e w9 ⟨A9, cap9, rfl, hrd9, hF9⟩
            have HSB2 : Hid (Calls Try.prog 21 #[.slice A8 np cap8, .slice A9 np cap9] w9 fun e w' => e = .returned (.bool true) ∧ Calm w9 w') := Lib.hid (by
              have h := HO8.out.1.kept hF9
              rw [HP2.out.2.1] at h
              have h2 := same_any w9 A8 A9 w9.heap.size w9.heap.size cap8 cap9 P P (Own.rd h) hrd9 (by rw [← HP2.out.2.1]; omega)
              rwa [decide_eq_true rfl, ← HP2.out.2.1] at h2)
            have HF9 := Lib.hid (HO8.out.2.1.trans hF9 (fun _ _ e => e))
            clear hrd9 hF9
            go_wp2_with fail
            refine HSB2.out.mono ?_
            rintro e w10 ⟨rfl, hC⟩
            have HF10 := Lib.hid (HF9.out.trans hC.fr (fun _ _ e => e))
            clear hC
            go_wp2_with fail
            refine (fworks HPP.out w10).mono ?_
            rintro e w11 ⟨rfl, hF11⟩
            have HF11 := Lib.hid (HF10.out.trans hF11 (fun _ _ e => e))
            clear hF11
            go_wp2_with fail
            go_ret
            exact ⟨rfl, HF11.out⟩
end
end Go.Proofs.Ytddkgihobcjmmaa.fl
