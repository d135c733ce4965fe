/-
  Format.
-/
import Derived.Test.YtflapnbpaodhaaaGreatDoorHdU
namespace Go.Proofs.YtflapnbpaodhaaaGreatDoor.hd
set_option maxRecDepth 100000
open Go.RowKit Go.Maps ds

/-- A room in its box, behind whatever leaves it. -/
theorem BoxR.keep {w w' : World} {g pb at_ cap : Nat} (h : BoxR w g pb at_ cap) (hK : Keep w w') : BoxR w' g pb at_ cap := (hK.2 _ g ⟨_, h⟩ (by decide)).trans h
theorem reads_arr {w : World} {g : Nat} {t : TypeId} {l : List UInt8} (h : w.heap[g]? = some (.cells (secC l) t (0, 0))) : Reads w g 0 l := fun j b hj => by
  rw [cellAt h, Nat.zero_add]
  show (cellsOf l).toArray[j]? = _
  rw [List.getElem?_toArray, cellsOf_get, hj]
  rfl

theorem one_block (w : World) (g : Nat) (t : TypeId) (x : Int) (l : List UInt8) (hl : l.length = 256) (hb : w.heap[g]? = some (.cells (secC l) t (0, 0))) (ht : t ≠ 66 ∧ t ≠ 74) (hk : t ≠ 38) :
    BksT (w.alloc (.cells #[.int .i64 x, .slice (some ⟨g, 0, none⟩) 256 256] 38)) (some ⟨w.heap.size, 0, none⟩) [(x, l)] := fun _ => by
  have hn := heap_alloc_new w (.cells #[.int .i64 x, .slice (some ⟨g, 0, none⟩) 256 256] 38)
  have hg := (Below.heap_alloc w (.cells #[.int .i64 x, .slice (some ⟨g, 0, none⟩) 256 256] 38) _ (Array.getElem?_eq_some_iff.1 hb).1).trans hb
  refine ⟨w.heap.size, 0, rfl, ⟨_, hn⟩, fun i y hi => ?_⟩
  obtain rfl : i = 0 := by
    have := (List.getElem?_eq_some_iff.1 hi).1
    simp at this
    exact this
  obtain rfl : (x, l) = y := by simpa using hi
  exact ⟨by rw [cellAt hn]; rfl, g, 0, 256, t, by rw [cellAt hn]; rfl, hl, ⟨_, hg⟩, ht, hk, reads_arr hg⟩
theorem run_one {w0 w : World} {pb N B : Nat} {d : DS} {v : Value} {at_ rc cap : Nat} {p : Option Addr} {x : Int × List UInt8} (hD : IsD w0 pb N B d w) (hst : StepW w v pb at_ rc p 1 cap) (hB : BksT w p [x]) (hx : 0 ≤ x.1 ∧ x.1 < N) (hbig : B + 4 ≤ 100000000) :
    Calls Tryz.prog 35 #[.slice (some ⟨w.heap.size, 0, none⟩) 1 1] (w.alloc (.cells #[v] 88)) fun e w' => e = .returned (.int .i64 (stepR d [x]).2) ∧ IsD w0 pb N (B + 4) (stepR d [x]).1 w' ∧ Keep w w' := by
  have hF := (Fr.refl (fun _ => False) w).alloc (.cells #[v] 88)
  have hK := Keep.of_fr hF
  have hn := heap_alloc_new w (.cells #[v] 88)
  obtain ⟨gl, gr, rfl, hgl, hgr⟩ := hst
  have hl1 := (hK.2 _ gl ⟨_, hgl⟩ (by decide)).trans hgl
  refine (run_any _ [.func (.func 64) #[] #[.pointer (some ⟨gl, 0, none⟩), .pointer (some ⟨gr, 0, none⟩)]] (fun z w' => z = (stepR d [x]).2 ∧ IsD w0 pb N (B + 4) (stepR d [x]).1 w' ∧ Keep w w') w.heap.size 0 1 ?_ ⟨_, hn⟩ (fun i y hi => ?_) (by simp)).mono ?_
  · refine ⟨_, _, rfl, Or.inl ⟨rfl, _, _, rfl⟩, (step_any w0 _ pb N B d (hD.calm hF) at_ rc gl gr p cap [x] hl1 (hgr.calm hF) (hB.keep hK) (by simp) (by simp; omega) (by simpa using hx)).mono ?_⟩
    rintro e w' ⟨rfl, hD', hK'⟩
    exact ⟨_, rfl, keep_two hK', fun _ => ⟨rfl, hD', hK.trans hK'⟩, fun h => ⟨h.symm, hD', hK.trans hK'⟩⟩
  · obtain rfl : i = 0 := by
      have := (List.getElem?_eq_some_iff.1 hi).1
      simp at this
      exact this
    obtain rfl : _ = y := by simpa using hi
    rw [cellAt hn]
    rfl
  · rintro e w' ⟨z, rfl, rfl, h⟩
    exact ⟨rfl, h⟩

set_option maxHeartbeats 4000000 in
theorem format_ok (w0 w : World) (pb N B : Nat) (d : DS) (hD : IsD w0 pb N B d w) (hT : cr.Tab w) (at_ rc : Nat) (h1 : 1 ≤ rc) (h2 : rc ≤ 100) (h3 : at_ + rc < N) (h4 : N ≤ 4096) (hB : B + 4 ≤ 100000000) :
    Calls Tryz.prog 22 #[.pointer (some ⟨pb, 0, none⟩), .int .i64 (at_ : Int), .int .i64 (rc : Int)] w fun e w' => e = .returned (.int .i64 (stepR d [((at_ : Int), hdrL 0 [])]).2) ∧ IsD w0 pb N (B + 4) (stepR d [((at_ : Int), hdrL 0 [])]).1 w' ∧ Keep w w' := by
  obtain ⟨c0, hN, hpb⟩ := hD.cell0
  have HRO := Lib.hid (roomOn_ok w pb N at_ rc c0 hpb h1 h2 h3 h4)
  have HD := Lib.hid (⟨hD, hT⟩ : _ ∧ _)
  have hat : at_ < N := by omega
  clear hD hT c0 hN hpb h1 h2 h3
  unfold roomV at HRO
  go_enter Tryz.func22, Tryz.ntmps22
  go_wp2_with fail
  refine HRO.out.mono ?_
  rintro e w1 ⟨rfl, hF1⟩
  have HD1 := Lib.hid (⟨(HD.out.1.calm hF1).calm ((Fr.refl _ _).alloc (.cells #[.pointer (some ⟨pb, 0, none⟩), .int .i64 (at_ : Int), .int .i64 (rc : Int)] 72)), HD.out.2.fr (hF1.alloc (.cells #[.pointer (some ⟨pb, 0, none⟩), .int .i64 (at_ : Int), .int .i64 (rc : Int)] 72)), Keep.of_fr (hF1.alloc (.cells #[.pointer (some ⟨pb, 0, none⟩), .int .i64 (at_ : Int), .int .i64 (rc : Int)] 72)), BoxR.mk_ w1 pb at_ rc⟩ : _ ∧ _ ∧ _ ∧ _)
  clear hF1 HD HRO
  go_wp2_with fail
  generalize w1.alloc (.cells #[.pointer (some ⟨pb, 0, none⟩), .int .i64 (at_ : Int), .int .i64 (rc : Int)] 72) = wa at HD1 ⊢
  generalize w1.heap.size = gR at HD1 ⊢
  have HH : Hid (∀ w2, Fr (fun _ => False) wa w2 → Calls Tryz.prog 45 #[.agg #[.pointer (some ⟨pb, 0, none⟩), .int .i64 (at_ : Int), .int .i64 (rc : Int)], .int .i64 0, .slice none 0 0] w2 fun e w' => ∃ g, e = .returned (.agg #[.int .i64 (at_ : Int), .slice (some ⟨g, 0, none⟩) 256 256]) ∧ w2.heap.size ≤ g ∧ w'.heap[g]? = some (.cells (secC (hdrL 0 [])) 100 (0, 0)) ∧ Fr (fun _ => False) w2 w') :=
    Lib.hid fun w2 hF => header_any w2 (HD1.out.2.1.fr hF) pb at_ rc 0 (by omega) none 0 [] (fun h => absurd rfl h) (by simp) (by simp) (by simp)
  have HWA : Hid (∀ w2 p n cap, Calls Tryz.prog 44 #[.agg #[.pointer (some ⟨pb, 0, none⟩), .int .i64 (at_ : Int), .int .i64 (rc : Int)], .slice p n cap] w2 fun e w' => ∃ v, e = .returned v ∧ StepW w' v pb at_ rc p n cap ∧ Fr (fun _ => False) w2 w') := Lib.hid fun w2 p n cap => write_any w2 pb at_ rc p n cap
  have five : ∀ {w3 w5 : World} {g : Nat} {v : Value} (_ : w3.heap[g]? = some (.cells (secC (hdrL 0 [])) 100 (0, 0)) ∧ IsD w0 pb N B d w3 ∧ Keep wa w3 ∧ BoxR w3 gR pb at_ rc) (_ : StepW w5 v pb at_ rc (some ⟨w3.heap.size, 0, none⟩) 1 1) (_ : Fr (fun _ => False) (w3.alloc (.cells #[.int .i64 (at_ : Int), .slice (some ⟨g, 0, none⟩) 256 256] 38)) w5),
      StepW w5 v pb at_ rc (some ⟨w3.heap.size, 0, none⟩) 1 1 ∧ IsD w0 pb N B d w5 ∧ Keep wa w5 ∧ BksT w5 (some ⟨w3.heap.size, 0, none⟩) [((at_ : Int), hdrL 0 [])] ∧ BoxR w5 gR pb at_ rc := by
    intro w3 w5 g v h3 hst hF5
    have hX : Fr (fun _ => False) w3 w5 := ((Fr.refl _ w3).alloc _).trans hF5 (fun _ _ e => e)
    exact ⟨hst, h3.2.1.calm hX, h3.2.2.1.trans (Keep.of_fr hX), (one_block w3 g _ _ _ (hdrL_length _ _) h3.1 (by decide) (by decide)).keep (Keep.of_fr hF5), h3.2.2.2.calm hX⟩
  go_region_held3 (fun w' => w'.cell? ⟨gR, 0, none⟩ = some (.pointer (some ⟨pb, 0, none⟩)) ∧ w'.cell? ⟨gR, 1, none⟩ = some (.int .i64 (at_ : Int)) ∧ w'.cell? ⟨gR, 2, none⟩ = some (.int .i64 (rc : Int)))
    (first
      | exact (HD1.out.2.2.2.calm (Fr.refl _ _).drew).c
      | exact H3.out.2.2.2.c
      | exact (H3.out.2.2.2.calm ((Fr.refl _ _).alloc _)).c
      | exact H5.out.2.2.2.2.c
      | exact (H5.out.2.2.2.2.calm ((Fr.refl _ _).alloc _)).c
      | exact H7.out.2.2.c)
    (first
      | (go_at_call 45; (refine (HH.out _ (Fr.refl _ _).drew).mono ?_); rintro e w3 ⟨g, rfl, hg, hb, hF3⟩; have H3 := Lib.hid (⟨hb, (HD1.out.1.calm (Fr.refl _ _).drew).calm hF3, Keep.of_fr ((Fr.refl _ _).drew.trans hF3 (fun _ _ e => e)), (HD1.out.2.2.2.calm (Fr.refl _ _).drew).calm hF3⟩ : _ ∧ IsD w0 pb N B d w3 ∧ Keep wa w3 ∧ BoxR w3 gR pb at_ rc); clear hg hb hF3)
      | (go_at_call 44; (refine (HWA.out _ _ _ _).mono ?_); rintro e w5 ⟨_, rfl, ⟨gl, gr, rfl, hgl, hgr⟩, hF5⟩; have H5 := Lib.hid (five H3.out ⟨gl, gr, rfl, hgl, hgr⟩ hF5); have HRUN := Lib.hid (run_one (x := ((at_ : Int), hdrL 0 [])) H5.out.2.1 H5.out.1 H5.out.2.2.2.1 ⟨by omega, by omega⟩ hB); clear hgl hgr hF5)
      | (go_at_call 35; (refine HRUN.out.mono ?_); rintro e w7 ⟨rfl, hD7, hK7⟩; have H7 := Lib.hid (⟨hD7, (HD1.out.2.2.1.trans H5.out.2.2.1).trans hK7, H5.out.2.2.2.2.keep hK7⟩ : _ ∧ _ ∧ BoxR w7 gR pb at_ rc); clear hD7 hK7))
  all_goals
    go_wp2_with fail
    go_ret
    exact ⟨rfl, H7.out.1, H7.out.2.1⟩
end Go.Proofs.YtflapnbpaodhaaaGreatDoor.hd
