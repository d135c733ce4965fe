/-
  The program's keepsOut, mayStand, kindOf, filled.
-/
import Derived.Test.YtgimiggffpokpaaGreatDoorTeF
import Derived.Test.YtgimiggffpokpaaGreatDoorPtZ
namespace Go.Proofs.YtgimiggffpokpaaGreatDoor.ta
set_option maxRecDepth 100000
open Go.RowKit Go.Maps Go.Deep
open Go.Proofs.YtgimiggffpokpaaGreatDoor.pt (Tx tx tx_toL tx_size toL toL_len underT)
open Go.Proofs.YtgimiggffpokpaaGreatDoor.he (Bts Hd hdV sV)
set_option maxRecDepth 100000

abbrev enC (x : En) : Obj := .cells #[.string (tx x.path), .int .i64 x.kind, .int .i64 x.mode, .string (tx x.data)] 30
theorem four_cells {w : World} {g : Nat} {a0 a1 a2 a3 : Value} {T : TypeId} (h : w.heap[g]? = some (.cells #[a0, a1, a2, a3] T (0, 0))) : w.cell? ⟨g, 0, none⟩ = some a0 ∧ w.cell? ⟨g, 1, none⟩ = some a1 ∧ w.cell? ⟨g, 2, none⟩ = some a2 ∧ w.cell? ⟨g, 3, none⟩ = some a3 :=
  ⟨(cellAt h 0).trans rfl, (cellAt h 1).trans rfl, (cellAt h 2).trans rfl, (cellAt h 3).trans rfl⟩
set_option maxHeartbeats 4000000 in
theorem pkeeps (w : World) (a b : En) (ha : a.path.length ≤ 1099511627776) (hb : b.path.length ≤ 1099511627776) :
    Calls Tryz.prog 73 #[enV a, enV b] w fun e w' => e = .returned (.bool (decide (a.kind ≠ 2) && underT b.path a.path)) ∧ Fr (fun _ => False) w w' := by
  obtain ⟨P, hP⟩ : ∃ P, P = tx a.path := ⟨_, rfl⟩
  obtain ⟨Q, hQ⟩ : ∃ Q, Q = tx b.path := ⟨_, rfl⟩
  have HU := Lib.hid (fun wx => pt.path_all.under wx Q P (by rw [hQ, tx_size]; omega) (by rw [hP, tx_size]; omega))
  rw [show Q.toList = b.path from by rw [hQ, tx_toL], show P.toList = a.path from by rw [hP, tx_toL]] at HU
  unfold enV
  rw [← hP, ← hQ]
  obtain ⟨k, hk⟩ : ∃ k, k = a.kind := ⟨_, rfl⟩
  rw [← hk]
  obtain ⟨U, hU⟩ : ∃ U, U = underT b.path a.path := ⟨_, rfl⟩
  rw [← hU] at HU ⊢
  obtain ⟨m, hm⟩ : ∃ m, m = a.mode := ⟨_, rfl⟩
  obtain ⟨D, hD⟩ : ∃ D, D = tx a.data := ⟨_, rfl⟩
  rw [← hm, ← hD]
  have HF := Lib.hid (fun o o' => ((Fr.refl (fun _ => False) w).alloc o).alloc o')
  clear ha hb hP hQ hk hU hm hD
  by_cases h2 : k = 2
  · subst h2
    go_enter Tryz.func73, Tryz.ntmps73
    go_wp2_with fail
    go_ret
    exact ⟨by simp, HF.out _ _⟩
  · have k1 : (k == 2) = false := beq_eq_false_iff_ne.2 h2
    have k2 : (k != 2) = true := bne_iff_ne.2 h2
    rw [decide_eq_true h2, Bool.true_and]
    clear h2
    go_enter Tryz.func73, Tryz.ntmps73
    go_wp2_with fail
    refine (HU.out _).mono ?_
    rintro e w1 ⟨rfl, hF1⟩
    have HF1 := Lib.hid ((HF.out _ _).trans hF1 (fun _ _ e => e))
    clear hF1
    go_wp2_with fail
    go_ret
    exact ⟨rfl, HF1.out⟩
/-- What mayStand asks of the entry that it is handed, a member's of kind k. -/
structure EnK (k : UInt8) (x : En) : Prop where
  path : x.path.length ≤ 1099511627776
  kind : x.kind = 2 ↔ k = 53
set_option maxHeartbeats 16000000 in
theorem pmay (w : World) (R : Nat) (x0 x1 x2 : Value) (A : Option Addr) (c : Nat) (out : List En) (hb : w.heap[R]? = some (rdC x0 x1 x2 (.slice A out.length c))) (hr : RdE w w.heap.size A out) (hl : out.length ≤ 256) (hpl : ∀ o ∈ out, o.path.length ≤ 1099511627776) (k : UInt8) (x : En) (hx : EnK k x) :
    Calls Tryz.prog 52 #[.pointer (some ⟨R, 0, none⟩), enV x] w fun e w' => e = .returned (.int .i64 (mayV k x.path out)) ∧ Fr (fun _ => False) w w' := by
  obtain ⟨n, hn⟩ : ∃ n, n = out.length := ⟨_, rfl⟩
  have HX := Lib.hid (⟨hr, hl, hpl, hx, hn⟩ : _ ∧ _ ∧ _ ∧ _ ∧ _)
  have hn256 : n ≤ 256 := by omega
  rw [← hn] at hb
  have hF0 : Fr (fun _ => False) w (w.alloc (enC x)) := (Fr.refl _ w).alloc _
  obtain ⟨W, hW⟩ : ∃ W, W = w.alloc (enC x) := ⟨_, rfl⟩
  obtain ⟨B, hB⟩ : ∃ B, B = w.heap.size := ⟨_, rfl⟩
  have hbW : W.heap[B]? = some (enC x) := by rw [hW, hB]; exact heap_alloc_new _ _
  have hRW : W.heap[R]? = some (rdC x0 x1 x2 (.slice A n c)) := by rw [hW]; exact keep_blk hb hF0
  obtain ⟨_, _, _, r3, _, _, _, _⟩ := rd_cells hRW
  have hKE := Lib.hid (fun wx (o : En) (ho : o.path.length ≤ 1099511627776) => pkeeps wx o x ho hx.path)
  have hKO := Lib.hid (fun wx (o : En) (ho : o.path.length ≤ 1099511627776) => pkeeps wx x o hx.path ho)
  obtain ⟨P, hP⟩ : ∃ P, P = tx x.path := ⟨_, rfl⟩
  obtain ⟨q1, hq1⟩ : ∃ q, q = x.kind := ⟨_, rfl⟩
  obtain ⟨q2, hq2⟩ : ∃ q, q = x.mode := ⟨_, rfl⟩
  obtain ⟨q3, hq3⟩ : ∃ q, q = tx x.data := ⟨_, rfl⟩
  have hPx : P.toList = x.path := by rw [hP, tx_toL]
  have HC := Lib.hid (⟨hF0, hbW, hW⟩ : _ ∧ _ ∧ _)
  unfold enV at hKE hKO
  unfold enC at HC
  unfold enV
  rw [← hP, ← hq1, ← hq2, ← hq3] at HC
  have hKE := Lib.hid (show ∀ (wx : World) (o : En), o.path.length ≤ 1099511627776 → Calls Tryz.prog 73 #[.agg #[.string (tx o.path), .int .i64 o.kind, .int .i64 o.mode, .string (tx o.data)], .agg #[.string P, .int .i64 q1, .int .i64 q2, .string q3]] wx fun e w' => e = .returned (.bool (decide (o.kind ≠ 2) && underT x.path o.path)) ∧ Fr (fun _ => False) wx w' from by rw [hP, hq1, hq2, hq3]; exact hKE.out)
  have hKO := Lib.hid (show ∀ (wx : World) (o : En), o.path.length ≤ 1099511627776 → Calls Tryz.prog 73 #[.agg #[.string P, .int .i64 q1, .int .i64 q2, .string q3], .agg #[.string (tx o.path), .int .i64 o.kind, .int .i64 o.mode, .string (tx o.data)]] wx fun e w' => e = .returned (.bool (decide (x.kind ≠ 2) && underT o.path x.path)) ∧ Fr (fun _ => False) wx w' from by rw [hP, hq1, hq2, hq3]; exact hKO.out)
  rw [← hP, ← hq1, ← hq2, ← hq3]
  obtain ⟨Z, hZ⟩ : ∃ Z, Z = mayV k x.path out := ⟨_, rfl⟩
  have HZ := Lib.hid hZ
  have HP := Lib.hid hPx
  rw [← hZ]
  clear hb hr hl hpl hx hn hF0 hbW hRW hP hq1 hq2 hq3 hPx hZ hW
  have HB := Lib.hid hB
  clear hB
  go_enter Tryz.func52, Tryz.ntmps52
  go_upto_region 2 with fail
  rw [← HC.out.2.2, ← HB.out]
  go_wp2_with fail
  go_loopw [5, 13] (fun v5 v13 wr => ∃ (i : Nat) (s : Bool), i ≤ n ∧ v13 = .int .i64 (i : Int) ∧ v5 = .bool s ∧ Hid (MayI k x.path out i s ∧ Fr (fun _ => False) W wr)) (fun _ v _ => n - (intOf v).toNat)
  case atStart => exact ⟨0, false, Nat.zero_le _, rfl, rfl, (show Hid _ from Lib.hid ⟨MayI.zero _ _ _, Fr.refl _ W⟩)⟩
  case round =>
    obtain ⟨i, s, hi, rfl, rfl, HK⟩ := hrel
    obtain ⟨hM, hF⟩ := HK.out
    obtain ⟨hr, hl, hpl, hx, hn⟩ := HX.out
    have hFw := HC.out.1.trans (by rw [← HC.out.2.2]; exact hF) (fun _ _ e => e)
    clear HK
    by_cases hlt : i < n
    · obtain ⟨o, ho⟩ : ∃ o, out[i]? = some o := ⟨_, List.getElem?_eq_getElem (by omega)⟩
      obtain ⟨gb, go, rfl, hgb, p0, p1, p2, p3⟩ := (hr.still hFw (Nat.le_refl _)).at_ ho
      have hol := hpl o (List.mem_of_getElem? ho)
      have k3 : (0 : Int) ≤ (i : Int) := by omega
      have k4 : (i : Int) < (n : Int) := by omega
      have hiw : IntKind.i64.wrap ((i : Int) + 1) = ((i + 1 : Nat) : Int) := by rw [IntWalk.i64_in _ (by omega)]; omega
      obtain ⟨O, hO⟩ : ∃ O, O = tx o.path := ⟨_, rfl⟩
      obtain ⟨o1, ho1⟩ : ∃ q, q = o.kind := ⟨_, rfl⟩
      obtain ⟨o2, ho2⟩ : ∃ q, q = o.mode := ⟨_, rfl⟩
      obtain ⟨o3, ho3⟩ : ∃ q, q = tx o.data := ⟨_, rfl⟩
      have hOo : O.toList = o.path := by rw [hO, tx_toL]
      have HE := Lib.hid (fun wx => hKE.out wx o hol)
      have HO := Lib.hid (fun wx => hKO.out wx o hol)
      rw [← hO, ← ho1, ← ho2, ← ho3] at HE HO
      rw [← hO] at p0
      rw [← ho1] at p1
      rw [← ho2] at p2
      rw [← ho3] at p3
      obtain ⟨c0, c1, c2, c3⟩ := four_cells (keep_blk HC.out.2.1 (hF.alloc (.cells #[.string O, .int .i64 o1, .int .i64 o2, .string o3] 30)))
      by_cases heq : o.path = x.path
      · have HN := Lib.hid (hM.eq ho heq)
        obtain rfl : O = P := by rw [← pt.tx_of O, ← pt.tx_of P, hOo, HP.out, heq]
        have HFn := Lib.hid (fun o' => hF.alloc o')
        clear hM hF hr hl hpl hx hn hFw ho hgb hol hO ho1 ho2 ho3 hOo HE HO heq
        go_wp2_with fail
        go_roundw
        case rel => exact ⟨i + 1, true, by omega, by go_num, rfl, (show Hid _ from Lib.hid ⟨HN.out, HFn.out _⟩)⟩
        case measure => simp [intOf]; omega
      · have hne : (O.toList == P.toList) = false := beq_eq_false_iff_ne.2 (by rw [hOo, HP.out]; exact heq)
        have HCW := Lib.hid HC.out.2.1
        have HF1 := Lib.hid hF
        have HOUT := Lib.hid (fun h => may_out (k := k) ho heq h)
        have HON := Lib.hid (fun h1 h2 => hM.on ho heq h1 h2)
        have HQ := Lib.hid (⟨ho1, hx.kind⟩ : _ ∧ _)
        rw [← HZ.out] at HOUT
        cases hb1 : (decide (o1 ≠ 2) && underT x.path o.path) with
        | true =>
          have HZ2 := Lib.hid (HOUT.out (Or.inl (by rw [← ho1]; simpa using hb1)))
          have HE := Lib.hid (fun wx => (show Calls Tryz.prog 73 _ wx fun e w' => e = .returned (.bool true) ∧ Fr (fun _ => False) wx w' from by rw [← hb1]; exact HE.out wx))
          clear hM hF hr hl hpl hx hn hFw ho hgb hol hO ho1 ho2 ho3 hOo HO heq hb1
          go_wp2_with fail
          refine (HE.out _).mono ?_
          rintro e w2 ⟨rfl, hF2⟩
          have HF2 := Lib.hid ((HF1.out.alloc _).trans hF2 (fun _ _ e => e))
          clear hF2
          go_wp2_with fail
          go_ret
          exact ⟨by rw [HZ2.out]; rfl, HC.out.1.trans (by rw [← HC.out.2.2]; exact HF2.out) (fun _ _ e => e)⟩
        | false =>
          have HE := Lib.hid (fun wx => (show Calls Tryz.prog 73 _ wx fun e w' => e = .returned (.bool false) ∧ Fr (fun _ => False) wx w' from by rw [← hb1]; exact HE.out wx))
          have hlow : o.kind ≠ 2 → underT x.path o.path = false := fun h => by
            cases hu : underT x.path o.path with
            | false => rfl
            | true =>
              have : (decide (o1 ≠ 2) && underT x.path o.path) = true := by rw [hu, decide_eq_true (show o1 ≠ 2 by rw [ho1]; exact h)]; rfl
              rw [this] at hb1
              cases hb1
          cases hb2 : (decide (x.kind ≠ 2) && underT o.path x.path) with
          | true =>
            have HZ2 := Lib.hid (HOUT.out (Or.inr (by
              have : x.kind ≠ 2 ∧ underT o.path x.path = true := by simpa using hb2
              exact ⟨fun e => this.1 (HQ.out.2.2 e), this.2⟩)))
            have HO := Lib.hid (fun wx => (show Calls Tryz.prog 73 _ wx fun e w' => e = .returned (.bool true) ∧ Fr (fun _ => False) wx w' from by rw [← hb2]; exact HO.out wx))
            clear hM hF hr hl hpl hx hn hFw ho hgb hol hO ho1 ho2 ho3 hOo heq hb1 hb2 hlow
            go_wp2_with fail
            refine (HE.out _).mono ?_
            rintro e w2 ⟨rfl, hF2⟩
            obtain ⟨d0, d1, d2, d3⟩ := four_cells (keep_blk HCW.out ((HF1.out.alloc _).trans hF2 (fun _ _ e => e)))
            obtain ⟨e0, e1, e2, e3⟩ := four_cells (keep_blk (heap_alloc_new wr _) hF2)
            have HF2 := Lib.hid ((HF1.out.alloc _).trans hF2 (fun _ _ e => e))
            clear hF2 c0 c1 c2 c3
            go_wp2_with fail
            refine (HO.out _).mono ?_
            rintro e w3 ⟨rfl, hF3⟩
            have HF3 := Lib.hid (HF2.out.trans hF3 (fun _ _ e => e))
            clear hF3
            go_wp2_with fail
            go_ret
            exact ⟨by rw [HZ2.out]; rfl, HC.out.1.trans (by rw [← HC.out.2.2]; exact HF3.out) (fun _ _ e => e)⟩
          | false =>
            have HO := Lib.hid (fun wx => (show Calls Tryz.prog 73 _ wx fun e w' => e = .returned (.bool false) ∧ Fr (fun _ => False) wx w' from by rw [← hb2]; exact HO.out wx))
            have hhigh : k ≠ 53 → underT o.path x.path = false := fun h => by
              cases hu : underT o.path x.path with
              | false => rfl
              | true =>
                have : (decide (x.kind ≠ 2) && underT o.path x.path) = true := by rw [hu, decide_eq_true (show x.kind ≠ 2 from fun e => h (hx.kind.1 e))]; rfl
                rw [this] at hb2
                cases hb2
            have HN := Lib.hid (HON.out hlow hhigh)
            clear hM hF hr hl hpl hx hn hFw ho hgb hol hO ho1 ho2 ho3 hOo heq hb1 hb2 hlow hhigh
            go_wp2_with fail
            refine (HE.out _).mono ?_
            rintro e w2 ⟨rfl, hF2⟩
            obtain ⟨d0, d1, d2, d3⟩ := four_cells (keep_blk HCW.out ((HF1.out.alloc _).trans hF2 (fun _ _ e => e)))
            obtain ⟨e0, e1, e2, e3⟩ := four_cells (keep_blk (heap_alloc_new wr _) hF2)
            have HF2 := Lib.hid ((HF1.out.alloc _).trans hF2 (fun _ _ e => e))
            clear hF2 c0 c1 c2 c3
            go_wp2_with fail
            refine (HO.out _).mono ?_
            rintro e w3 ⟨rfl, hF3⟩
            have HF3 := Lib.hid (HF2.out.trans hF3 (fun _ _ e => e))
            clear hF3
            go_wp2_with fail
            go_roundw
            case rel => exact ⟨i + 1, s, by omega, by go_num, rfl, (show Hid _ from Lib.hid ⟨HN.out, HF3.out⟩)⟩
            case measure => simp [intOf]; omega
    · have hin : i = n := by omega
      have HEND := Lib.hid (show Z = if s = true then 6 else 0 from by
        rw [HZ.out]
        rw [hin, hn] at hM
        exact hM.done)
      have HFE := Lib.hid hFw
      clear hM hF hr hl hpl hx hn hFw hin
      cases s with
      | true =>
        go_wp2_with fail
        go_ret
        exact ⟨by rw [HEND.out]; rfl, HFE.out⟩
      | false =>
        go_wp2_with fail
        go_ret
        exact ⟨by rw [HEND.out]; rfl, HFE.out⟩
/-- The kind of a member's entry. -/
def kindZ (k : UInt8) : Int := if k = 48 then 1 else if k = 53 then 2 else if k = 50 then 3 else 0
set_option maxHeartbeats 2000000 in
theorem pkindOf (w : World) (k : UInt8) : Calls Tryz.prog 51 #[.int .u8 (k.toNat : Int)] w fun e w' => e = .returned (.int .i64 (kindZ k)) ∧ w = w' := by
  unfold kindZ
  by_cases h1 : k = 48
  · rw [if_pos h1, h1]
    go_enter Tryz.func51, Tryz.ntmps51
    go_wp2_with fail
    go_ret
    exact ⟨rfl, rfl⟩
  rw [if_neg h1]
  have q1 : ((k.toNat : Int) == 48) = false := he.u8_ne (y := 48) h1
  by_cases h2 : k = 53
  · rw [if_pos h2, h2]
    go_enter Tryz.func51, Tryz.ntmps51
    go_wp2_with fail
    go_ret
    exact ⟨rfl, rfl⟩
  rw [if_neg h2]
  have q2 : ((k.toNat : Int) == 53) = false := he.u8_ne (y := 53) h2
  by_cases h3 : k = 50
  · rw [if_pos h3, h3]
    go_enter Tryz.func51, Tryz.ntmps51
    go_wp2_with fail
    go_ret
    exact ⟨rfl, rfl⟩
  rw [if_neg h3]
  have q3 : ((k.toNat : Int) == 50) = false := he.u8_ne (y := 50) h3
  clear h1 h2 h3
  go_enter Tryz.func51, Tryz.ntmps51
  go_wp2_with fail
  go_ret
  exact ⟨rfl, rfl⟩
set_option maxHeartbeats 2000000 in
theorem pfilled (w : World) (n : Nat) (hn : n ≤ 1000000) : Calls Tryz.prog 32 #[.int .i64 (n : Int)] w fun e w' => e = .returned (.int .i64 (fullN n : Nat)) ∧ w = w' := by
  obtain ⟨a, ha⟩ : ∃ a, a = n + 512 := ⟨_, rfl⟩
  obtain ⟨b, hb⟩ : ∃ b, b = n + 511 := ⟨_, rfl⟩
  have h1 : IntKind.i64.wrap ((n : Int) + 512) = (a : Int) := by rw [IntWalk.i64_in _ (by omega)]; omega
  have h2 : IntKind.i64.wrap ((a : Int) - 1) = (b : Int) := by rw [IntWalk.i64_in _ (by omega)]; omega
  have HE := Lib.hid (show ((fullN n : Nat) : Int) = ((b / 512 * 512 : Nat) : Int) from by unfold fullN; rw [Int.toNat_natCast, hb])
  obtain ⟨F, hF⟩ : ∃ F, F = ((fullN n : Nat) : Int) := ⟨_, rfl⟩
  rw [← hF] at HE ⊢
  obtain ⟨q, hq⟩ : ∃ q, q = b / 512 := ⟨_, rfl⟩
  rw [← hq] at HE
  have h3 : wrap64 ((b : Int) / 512) = (q : Int) := by rw [IntWalk.wrap64_in _ (by omega)]; omega
  have h4 : wrap64 ((q : Int) * 512) = ((q * 512 : Nat) : Int) := by rw [IntWalk.wrap64_in _ (by omega)]; omega
  clear ha hb hF hq
  go_enter Tryz.func32, Tryz.ntmps32
  go_wp2_with fail
  go_ret
  exact ⟨by rw [HE.out, ← h4]; rfl, rfl⟩
end Go.Proofs.YtgimiggffpokpaaGreatDoor.ta
