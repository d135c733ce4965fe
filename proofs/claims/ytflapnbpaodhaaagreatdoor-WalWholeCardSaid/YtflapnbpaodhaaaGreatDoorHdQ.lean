/-
  read: the header of a room, held against what it logs.
-/
import Derived.Test.YtflapnbpaodhaaaGreatDoorHdE
namespace Go.Proofs.YtflapnbpaodhaaaGreatDoor.hd
set_option maxRecDepth 100000
open Go.RowKit Go.Maps ds
set_option maxRecDepth 100000

set_option maxHeartbeats 1000000 in
theorem read_gone (w0 w : World) (pb N B : Nat) (d : DS) (hD : IsD w0 pb N B d w) (hdk : d.dk = true) (at_ rc : Nat) (h3 : at_ + rc < N) :
    Calls Tryz.prog 42 #[roomV pb at_ rc] w fun e w' => Fr (fun _ => False) w w' ∧ e = .returned (.tuple #[.int .i64 0, .slice none 0 0, .int .i64 10]) := by
  have HF := Lib.hid ((Fr.refl (fun _ => False) w).alloc (.cells #[.pointer (some ⟨pb, 0, none⟩), .int .i64 (at_ : Int), .int .i64 (rc : Int)] 72))
  have HB := Lib.hid (BoxR.mk_ w pb at_ rc)
  have HR := Lib.hid ((hD.calm HF.out).read_dark hdk (at_ : Int) (by omega) (by omega))
  clear hD hdk h3
  unfold roomV
  go_enter Tryz.func42, Tryz.ntmps42
  go_wp2_with (go_at_call 10; refine HR.out.mono ?_; rintro e w' ⟨rfl, rfl⟩)
  go_ret3
  exact ⟨HF.out, rfl⟩

theorem numAt_lt4 (h : List UInt8) (a : Nat) : numAt h a 4 < 4294967296 :=
  numAt_small h a (by omega)
theorem logL_home {N at_ rc n : Nat} {d : DS} {h : List UInt8} (hr : rightH N at_ rc h) (hn : n = numAt h 8 2) {x : Int × List UInt8} (hx : x ∈ logL d at_ h n) (hN : N ≤ 65536) : 0 ≤ x.1 ∧ x.1 < 65536 := by
  obtain ⟨i, hi, rfl⟩ := List.mem_map.1 hx
  have := (hr.2 i (by rw [← hn]; simpa using hi)).2.1
  show 0 ≤ ((homeN h i : Nat) : Int) ∧ ((homeN h i : Nat) : Int) < 65536
  omega
theorem logL_dat {w0 w : World} {pb N B at_ rc n : Nat} {d : DS} {h : List UInt8} (hD : IsD w0 pb N B d w) (hr : rightH N at_ rc h) (hn : n = numAt h 8 2) (h3 : at_ + rc < N) {x : Int × List UInt8} (hx : x ∈ logL d at_ h n) : x.2.length = 256 := by
  obtain ⟨i, hi, rfl⟩ := List.mem_map.1 hx
  have h1 := hr.1
  have hi : i < n := by simpa using hi
  exact hD.len (by omega) (by omega)
def rightD (N at_ rc : Nat) (d : DS) (h : List UInt8) : Prop := rightH N at_ rc h ∧ hdrL (numAt h 4 4) (logL d at_ h (numAt h 8 2)) = h

set_option maxHeartbeats 4000000 in
theorem read_any (w0 w : World) (pb N B : Nat) (d : DS) (hD : IsD w0 pb N B d w) (hT : cr.Tab w) (hdk : d.dk = false) (at_ rc : Nat) (h1 : 1 ≤ rc) (h2 : rc ≤ 100) (h3 : at_ + rc < N) (h4 : N ≤ 4096) (h : List UInt8) (hh : h = d.img (at_ : Int)) :
    Calls Tryz.prog 42 #[roomV pb at_ rc] w fun e w' => Fr (fun _ => False) w w' ∧
      ((∃ p cap, e = .returned (.tuple #[.int .i64 ((numAt h 4 4 : Nat) : Int), .slice p (numAt h 8 2) cap, .int .i64 0]) ∧ rightD N at_ rc d h ∧ BksT w' p (logL d at_ h (numAt h 8 2))) ∨
        (e = .returned (.tuple #[.int .i64 0, .slice none 0 0, .int .i64 40]) ∧ ¬ rightD N at_ rc d h)) := by
  have hF := (Fr.refl (fun _ => False) w).alloc (.cells #[.pointer (some ⟨pb, 0, none⟩), .int .i64 (at_ : Int), .int .i64 (rc : Int)] 72)
  have hl : h.length = 256 := by rw [hh]; exact hD.len (by omega) (by omega)
  have H1 := Lib.hid (⟨hF, BoxR.mk_ w pb at_ rc, hD.calm hF⟩ : _ ∧ _ ∧ _)
  have HR := Lib.hid ((hD.calm hF).read hdk (at_ : Int) (by omega) (by omega))
  rw [← hh] at HR
  have HT := Lib.hid hT
  have HDK := Lib.hid hdk
  have HL := Lib.hid hl
  have HLG : Hid (∀ w2, IsD w0 pb N B d w2 → Calls Tryz.prog 61 #[.agg #[.pointer (some ⟨pb, 0, none⟩), .int .i64 (at_ : Int), .int .i64 (rc : Int)], .agg (cellsOf h).toArray] w2 fun e w' => Fr (fun _ => False) w2 w' ∧
      ((∃ p cap, e = .returned (.tuple #[.slice p (numAt h 8 2) cap, .int .i64 0]) ∧ rightH N at_ rc h ∧ BksT w' p (logL d at_ h (numAt h 8 2))) ∨
        (e = .returned (.tuple #[.slice none 0 0, .int .i64 40]) ∧ ¬ rightH N at_ rc h))) := Lib.hid fun w2 hD2 => logged_any w0 w2 pb N B d hD2 hdk at_ rc h1 h2 h3 h4 h hl
  have hu := Tryz.underlying100
  have hin : (Tryz.prog.info? 100).map (·.size) = some (cellsOf h).length := by rw [cellsOf_length, hl]; exact infoArr
  have HU := Lib.hid (⟨hu, hin⟩ : _ ∧ _)
  obtain ⟨n, hn⟩ : ∃ n, n = numAt h 8 2 := ⟨_, rfl⟩
  obtain ⟨tn, htn⟩ : ∃ tn, tn = numAt h 4 4 := ⟨_, rfl⟩
  have HTN : Hid (∀ w2, Calls Tryz.prog 63 #[.agg (cellsOf h).toArray] w2 fun e w' => e = .returned (.int .i64 (tn : Int)) ∧ Fr (fun _ => False) w2 w') := Lib.hid fun w2 => by rw [htn]; exact turn_ok w2 hl
  have HN := Lib.hid hn
  have HTE := Lib.hid htn
  rw [← hn] at HLG ⊢
  rw [← htn]
  clear hF hl hD hT hdk hh hu hin hn htn
  unfold roomV
  go_enter Tryz.func42, Tryz.ntmps42
  obtain ⟨b0, b1, b2⟩ := H1.out.2.1.c
  go_wp2_with (go_at_call 10; refine HR.out.mono ?_; rintro e w2 ⟨g, rfl, hg, hb, hF2⟩; have H2 := Lib.hid (⟨H1.out.1.trans hF2 (fun _ _ e => e), H1.out.2.1.calm hF2, H1.out.2.2.calm hF2, hb⟩ : _ ∧ _ ∧ _ ∧ _); clear hg hb hF2)
  have HHF := Lib.hid (headerFrom_any w2 g 0 256 256 h HL.out (Nat.le_refl _) (Array.getElem?_eq_some_iff.1 H2.out.2.2.2).1 (reads_arr H2.out.2.2.2))
  refine HHF.out.mono ?_
  rintro e w3 ⟨rfl, hB3⟩
  have hF3 : Fr (fun _ => False) w2 w3 := Fr.ofBelow (S := fun _ => False) hB3 (fun i hi _ => hi)
  have H3 := Lib.hid (⟨H2.out.1.trans hF3 (fun _ _ e => e), H2.out.2.1.calm hF3, H2.out.2.2.1.calm hF3⟩ : _ ∧ _ ∧ _)
  clear hB3 hF3 H2 H1 HHF HR b0 b1 b2
  go_wp2_with (first
    | ((with_reducible refine wpList_allocArr ?_ ?_ ?_); (exact rfl); (exact rfl))
    | ((with_reducible refine wpList_storeArr ?_ (.tmp 7) (.tmp 21) ?_ w3.heap.size h noughts HL.out noughts_length ?_ ?_ (heap_alloc_new _ _) ?_); (exact rfl); (exact rfl); (exact rfl); (exact rfl); intro w4 h4 hF4 hs4; have hF5 : Fr (fun _ => False) w3 w4 := fr_go ((Fr.refl _ w3).alloc _) hF4 (fun i e => by omega); have H4 := Lib.hid (⟨H3.out.1.trans hF5 (fun _ _ e => e), H3.out.2.1.calm hF5, H3.out.2.2.calm hF5, h4⟩ : _ ∧ _ ∧ _ ∧ _); obtain ⟨b0, b1, b2⟩ := H4.out.2.1.c; clear h4 hF4 hs4 hF5)
    | ((with_reducible refine wpList_loadArr ?_ (.tmp 7) ?_ w3.heap.size h HL.out ?_ H4.out.2.2.2 ?_); (exact rfl); (exact rfl); (exact rfl)))
  refine (HLG.out w4 H4.out.2.2.1).mono ?_
  generalize w3.heap.size = gh at H4 ⊢
  rintro e w5 ⟨hF5, hcase⟩
  have H5 := Lib.hid (⟨H4.out.1.trans hF5 (fun _ _ e => e), H4.out.2.1.calm hF5, H4.out.2.2.1.calm hF5, (hF5.block _ (Array.getElem?_eq_some_iff.1 H4.out.2.2.2).1 id).trans H4.out.2.2.2⟩ : _ ∧ _ ∧ _ ∧ _)
  clear hF5 H4 b0 b1 b2 H3
  rcases hcase with ⟨p, cap, rfl, hr, hb⟩ | ⟨rfl, hr⟩
  · obtain ⟨X, hX⟩ : ∃ X, X = hdrL tn (logL d at_ h n) := ⟨_, rfl⟩
    have HX := Lib.hid hX
    have HRB := Lib.hid (⟨hr, hb⟩ : _ ∧ _)
    have hll : n = (logL d at_ h n).length := (logL_length _ _ _ _).symm
    have HHO : Hid (∀ w2, Fr (fun _ => False) w5 w2 → Calls Tryz.prog 62 #[.int .i64 (tn : Int), .slice p n cap] w2 fun e w' => e = .returned (.agg (cellsOf X).toArray) ∧ Fr (fun _ => False) w2 w') := Lib.hid fun w2 hF => by
      have hc := headerOf_any w2 (HT.out.fr (H5.out.1.trans hF (fun _ _ e => e))) tn (by rw [HTE.out]; exact numAt_lt4 _ _) p cap (logL d at_ h n) (hb.keep (Keep.of_fr hF)).bks (by rw [logL_length, HN.out]; have := hr.1; omega) (fun x hx => logL_home hr HN.out hx (by omega)) (fun x hx => by rw [logL_dat H5.out.2.2.1 hr HN.out h3 hx]; omega)
      rw [← hll, ← hX] at hc
      exact hc
    obtain ⟨hu, hin⟩ := HU.out
    have HXL := Lib.hid (show X.length = 256 by rw [hX]; exact hdrL_length _ _)
    clear hX hr hb hll
    go_wp2_with fail
    refine wp_region_held_drew (S := fun w' => w'.heap[gh]? = some (.cells (secC h) 100 (0, 0))) (by kernel_rfl) (show w5.drew.heap[gh]? = _ from H5.out.2.2.2) (fun hHeld => ?_)
    refine wpAnyH_take (i := 0) (oi := { dst := some 31, op := Op.load 100 (Operand.tmp 7), type := 100, pos := "room.go:75", after := #[], guard := none }) (v := .agg (cellsOf h).toArray) rfl (by kernel_rfl) (by kernel_rfl) (by kernel_rfl) (fun _ _ _ h => h) (yieldsIf_load_mid (by rfl) 100 (.tmp 7) rfl gh 0 rfl (cellsOf h) _ (fun _ hS => range_arr hS) hu rfl hin) hHeld ?_
    simp only [Act.put, List.setIfInBounds_toArray, List.set_cons_zero, List.set_cons_succ]
    refine wpAnyH_take (i := 4) (oi := { dst := some 35, op := Op.load 100 (Operand.tmp 7), type := 100, pos := "room.go:75", after := #[], guard := none }) (v := .agg (cellsOf h).toArray) rfl (by kernel_rfl) (by kernel_rfl) (by kernel_rfl) (fun _ _ _ h => h) (yieldsIf_load_mid (by rfl) 100 (.tmp 7) rfl gh 0 rfl (cellsOf h) _ (fun _ hS => range_arr hS) hu rfl hin) hHeld ?_
    simp only [Act.put, List.setIfInBounds_toArray, List.set_cons_zero, List.set_cons_succ]
    refine wpAnyH_take (i := 2) (oi := { dst := some 33, op := Op.move (Operand.tmp 8), type := 30, pos := "room.go:75", after := #[], guard := none }) (v := .slice p n cap) rfl (by kernel_rfl) (by kernel_rfl) (by kernel_rfl) (fun _ _ _ h => h) (Or.inl ⟨by rfl, fun _ _ => by go_simp⟩) hHeld ?_
    simp only [Act.put, List.setIfInBounds_toArray, List.set_cons_zero, List.set_cons_succ]
    refine wpAnyH_ready (rs := [1]) (by kernel_rfl) (by simp) (AllReadyH.cons (o := { dst := some 32, op := Op.call { callee := Callee.value (Operand.func 63), args := #[Operand.tmp 31], argTypes := #[100] }, type := 3, pos := "room.go:75", after := #[{ on := 0, ground := Ground.data }], guard := none }) rfl (fun K hK => ?_) AllReadyH.nil)
    go_simp
    go_at_call 63
    refine (HTN.out _).mono ?_
    rintro e w6 ⟨rfl, hF6⟩
    have H6 := Lib.hid (⟨(Fr.refl _ w5).drew.trans hF6 (fun _ _ e => e), H5.out.1.drew.trans hF6 (fun _ _ e => e), (hF6.block gh (Array.getElem?_eq_some_iff.1 H5.out.2.2.2).1 id).trans H5.out.2.2.2⟩ : _ ∧ _ ∧ _)
    clear hF6
    refine hK.out _ _ H6.out.2.2 (fun hHeld6 => ?_)
    clear hK K hHeld
    refine wpAnyH_ready (rs := [3]) (by kernel_rfl) (by simp) (AllReadyH.cons (o := { dst := some 34, op := Op.call { callee := Callee.value (Operand.func 62), args := #[Operand.tmp 32, Operand.tmp 33], argTypes := #[3, 30] }, type := 100, pos := "room.go:75", after := #[{ on := 1, ground := Ground.data }, { on := 2, ground := Ground.data }, { on := 1, ground := Ground.chain }], guard := none }) rfl (fun K hK => ?_) AllReadyH.nil)
    go_simp
    go_at_call 62
    refine (HHO.out _ H6.out.1).mono ?_
    rintro e w7 ⟨rfl, hF7⟩
    have H7 := Lib.hid (⟨H6.out.2.1.trans hF7 (fun _ _ e => e), (hF7.block gh (Array.getElem?_eq_some_iff.1 H6.out.2.2).1 id).trans H6.out.2.2, HRB.out.2.keep (Keep.of_fr (H6.out.1.trans hF7 (fun _ _ e => e)))⟩ : _ ∧ _ ∧ _)
    clear hF7
    refine hK.out _ _ H7.out.2.1 (fun hHeld7 => ?_)
    clear hK K hHeld6
    refine wpAnyH_take (i := 5) (oi := { dst := some 36, op := Op.binOp BinOp.neq 100 (Operand.tmp 34) (Operand.tmp 35) 100, type := 4, pos := "room.go:75", after := #[{ on := 3, ground := Ground.data }, { on := 4, ground := Ground.data }], guard := none }) (v := .bool (!decide (X = h))) rfl (by kernel_rfl) (by kernel_rfl) (by kernel_rfl) (fun _ _ _ h => h) (yields_neq X h HXL.out HL.out (.tmp 34) (.tmp 35) 100 rfl (by rfl) rfl rfl) hHeld7 ?_
    simp only [Act.put, List.setIfInBounds_toArray, List.set_cons_zero, List.set_cons_succ]
    refine wpAnyH_done (by kernel_rfl) ?_ _
    by_cases hq : X = h
    · rw [decide_eq_true hq]
      go_wp2_with ((with_reducible refine wpList_loadArr ?_ (.tmp 7) ?_ gh h HL.out ?_ H7.out.2.1 ?_); (exact rfl); (exact rfl); (exact rfl))
      refine (HTN.out _).mono ?_
      rintro e w8 ⟨rfl, hF8⟩
      have H8 := Lib.hid (⟨H7.out.1.trans hF8 (fun _ _ e => e), H7.out.2.2.keep (Keep.of_fr hF8)⟩ : _ ∧ _)
      clear hF8
      go_wp2_with fail
      go_ret3
      exact ⟨H8.out.1, Or.inl ⟨p, cap, rfl, ⟨HRB.out.1, by rw [← HN.out, ← HTE.out, ← HX.out]; exact hq⟩, H8.out.2⟩⟩
    · rw [decide_eq_false hq]
      go_wp2_with fail
      go_ret3
      exact ⟨H7.out.1, Or.inr ⟨rfl, fun hd => hq (by have := hd.2; rw [← HN.out, ← HTE.out, ← HX.out] at this; exact this)⟩⟩
  · go_wp2_with fail
    go_ret3
    exact ⟨H5.out.1, Or.inr ⟨rfl, fun hd => hr hd.1⟩⟩
end Go.Proofs.YtflapnbpaodhaaaGreatDoor.hd
