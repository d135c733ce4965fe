/-
  The document's Print.
-/
import Derived.Test.YtppkmfhlmmlckaaNmG
import Derived.Test.YtppkmfhlmmlckaaBitsP
import Derived.Lib.AppendStr
import Derived.Deep.RegionHeld3
namespace Go.Proofs.Ytppkmfhlmmlckaa.nm
set_option maxRecDepth 100000
open Go.RowKit Go.Maps
set_option maxRecDepth 100000

/-- An append of a text's bytes, at a step of a region that draws. -/
theorem step_append_str {P : Program} {w : World} {ops : Array Oper} {o : Oper} {a : Act} {K : Act → World → Prop} {Q : Exit → Act → World → Prop} {E : Prop} (hgd : o.guard = none) (sl x : Operand) (t u : TypeId)
    (ho : o.op = .call { callee := .builtin .append, args := #[sl, x], argTypes := #[t, u] })
    (base : Nat) (e : TypeId) (i : TypeInfo) (ht : P.underlying t = some (.slice e)) (hu : P.underlying u = some .string) (hi : P.info? e = some i) (hz : i.zero = some (.int .u8 0))
    (hsize : i.size = 1) (hby : i.bytes = 1)
    (v : Value) (n : Nat) (xs : List Value) (hs : a.eval sl = v) (hown : w.ownsRow base e 1 v n xs) (s : ByteArray) (hx : a.eval x = .string s)
    (h63 : n + s.size ≤ maxLen) (hbytes : n + s.size ≤ 140737488355328) (hbase : base ≤ w.heap.size)
    (h : ∀ v' w', w'.ownsRow base e 1 v' (n + s.size) (xs ++ Go.Lib.strCells s) → w.grownBy w' v.ownBlock → K (a.put o.dst v') w') :
    if Region.wanted o (yielded ops a.tmps) = true then Oper.wp P o a w K Q else E := by
  have hw : Region.wanted o (yielded ops a.tmps) = true := by simp [Region.wanted, hgd]
  rw [if_pos hw]
  obtain ⟨v', w', hr, h2, h3, h4⟩ := Go.Lib.run_append_own_string (P := P) w base t u o.type e i ht hu hi hz hsize hby v n xs hown s h63 hbytes hbase
  unfold Oper.wp execOp
  simp only [ho, resolve, invoke, builtin, Sem.run_bind, Sem.run_pure, Result.andThen_ok, List.map_toArray, List.map_cons, List.map_nil, hs, hx, hr]
  exact h v' w' h2 h3

theorem goes_in {n : Nat} (h : n < 65536) : goesB (n : Int) 2 = true := by
  unfold goesB
  simp
  omega
/-- The bytes of an entry. -/
def enB (x : Nm) : List UInt8 := UInt8.ofNat x.1.size :: (x.1.toList ++ putL [0, 0] 0 x.2.toNat 2)
def prL (l : List Nm) : List UInt8 := l.flatMap enB
theorem prL_next {l : List Nm} {k : Nat} {x : Nm} (h : l[k]? = some x) : prL (l.take (k + 1)) = prL (l.take k) ++ enB x := by
  unfold prL
  rw [List.take_add_one, h, List.flatMap_append]
  simp
theorem strCells_bs (s : ByteArray) : Go.Lib.strCells s = bs s.toList := by
  rw [toL]
  rfl
/-- What Print answers. -/
def AnsB (w : World) (l : List Nm) (e : Ending) (w' : World) : Prop :=
  (RightN l ∧ ∃ A cap, e = .returned (.tuple #[.slice A (prL l).length cap, .int .i64 0]) ∧ Own w' w.heap.size (.slice A (prL l).length cap) (prL l) ∧ Fr (fun _ => False) w w') ∨ (¬ RightN l ∧ e = .returned (.tuple #[.slice none 0 0, .int .i64 70]) ∧ Fr (fun _ => False) w w')
theorem own_geB {w0 w : World} {n : Nat} {v : Value} {xs : List Value} {q : Nat} (h : w.ownsRow w0.heap.size 5 1 v n xs) (e : v.ownBlock = some q) : False ∨ w0.heap.size ≤ q := by
  rcases h.2 with ⟨rfl, _⟩ | ⟨g, cap, cur, rfl, hg, _⟩
  · cases e
  · cases e
    exact Or.inr hg
theorem u8_len (n : Nat) : IntKind.u8.wrap (n : Int) = ((UInt8.ofNat n).toNat : Int) := by
  rw [UInt8.toNat_ofNat']
  simp [IntKind.wrap, IntKind.bits, IntKind.signed]
theorem src_own {w : World} {B : Nat} {g o : Nat} {l : List UInt8} (h : Rd w B (some ⟨g, o, none⟩) l) : ∀ j u, (bs l)[j]? = some u → w.cell? ((⟨g, o, none⟩ : Addr).add j) = some u := by
  intro j u hu
  have hne : l ≠ [] := by rintro rfl; simp [bs] at hu
  obtain ⟨_, _, e, _, hc⟩ := h hne
  cases e
  rw [add_plain]
  rw [bs_get] at hu
  cases hj : l[j]? with
  | none => rw [hj] at hu; cases hu
  | some x =>
    rw [hj] at hu
    cases hu
    exact hc j x hj
theorem fin_pr {w : World} {base n : Nat} {v : Value} {xs : List Value} {l : List Nm} {k : Nat} {x : Nm} (hx : prL (l.take (k + 1)) = prL (l.take k) ++ enB x) (hn : n = (prL (l.take (k + 1))).length) (hxs : xs = bs (prL (l.take k) ++ enB x)) (h : w.ownsRow base 5 1 v n xs) : ∃ A cap, v = .slice A (prL (l.take (k + 1))).length cap ∧ Own w base (.slice A (prL (l.take (k + 1))).length cap) (prL (l.take (k + 1))) := by
  subst hn
  rw [hxs, ← hx] at h
  rcases h.2 with ⟨rfl, h0⟩ | ⟨g, cap, cur, rfl, _⟩
  · refine ⟨none, 0, by rw [h0], ?_⟩
    rw [h0]
    exact (show w.ownsRow base _ 1 (.slice none 0 0) _ _ from h)
  · exact ⟨_, cap, rfl, h⟩
set_option maxHeartbeats 4000000 in
theorem rprint (w : World) (A : Option Addr) (cap : Nat) (l : List Nm) (hr : RdN w w.heap.size A l) (hb : l.length ≤ 140737488351232) :
    Calls Try.prog 13 #[.slice A l.length cap] w (AnsB w l) := by
  have HRI := Lib.hid (rright w A cap l hr hb)
  obtain ⟨n, hn⟩ : ∃ n, n = l.length := ⟨_, rfl⟩
  rw [← hn] at hb HRI ⊢
  have HR := Lib.hid hr
  have HN := Lib.hid hn
  clear hr hn
  by_cases hri : RightN l
  · rw [decide_eq_true hri] at HRI
    have HRT := Lib.hid hri
    have hn256 : n ≤ 256 := by have := hri.2; have := HN.out; omega
    clear hri
    go_enter Try.func13, Try.ntmps13
    go_wp2_with fail
    refine HRI.out.mono ?_
    rintro e w1 ⟨rfl, hC⟩
    have HF1 := Lib.hid hC.fr
    clear hC HRI
    go_wp2_with fail
    have H0 : Hid (Own (w1.alloc (.cells #[] 5)) w.heap.size (.slice (some ⟨w1.heap.size, 0, none⟩) (prL (l.take 0)).length 0) (prL (l.take 0)) ∧ Fr (fun _ => False) w (w1.alloc (.cells #[] 5))) := Lib.hid ⟨World.ownsRow_made w1 #[] 0 HF1.out.size (Nat.zero_le _) (by simp), HF1.out.alloc _⟩
    obtain ⟨i0, hi, hz0, hz1, hz2⟩ := info_parts infoB
    have HI := Lib.hid (⟨hi, hz0, hz1, hz2⟩ : _ ∧ _ ∧ _ ∧ _)
    clear hi hz0 hz1 hz2
    go_loopw [4, 5] (fun v4 i wr => ∃ k m : Nat, k ≤ n ∧ i = .int .i64 k ∧ m ≤ 35 * k ∧ (∃ A c, v4 = .slice A m c) ∧ Hid (m = (prL (l.take k)).length ∧ Own wr w.heap.size v4 (prL (l.take k)) ∧ Fr (fun _ => False) w wr)) (fun _ i _ => n - (intOf i).toNat)
    case atStart => exact ⟨0, 0, Nat.zero_le _, rfl, Nat.le_refl _, ⟨_, _, rfl⟩, (show _ ∧ _ from ⟨rfl, H0.out⟩)⟩
    case round =>
      obtain ⟨k, m, hk, rfl, hm, ⟨Ao, co, rfl⟩, HK⟩ := hrel
      clear H0
      by_cases hlt : k < n
      · obtain ⟨x, hx⟩ : ∃ x, l[k]? = some x := ⟨_, List.getElem?_eq_getElem (by have := HN.out; omega)⟩
        obtain ⟨b, o, rfl, hb1, _, _⟩ := HR.out.at_ hx
        have hit := (HRT.out.1 k x (by have := HN.out; omega) hx).1
        obtain ⟨xs, xi⟩ := x
        have hn1 : nmB xs = true := (Bool.and_eq_true_iff.1 hit).1
        have hi1 : inB xi = true := (Bool.and_eq_true_iff.1 hit).2
        have hsz : xs.size ≤ 32 := by
          unfold nmB at hn1
          simp at hn1
          omega
        have hxi : 0 ≤ xi ∧ xi ≤ 65535 := by
          unfold inB at hi1
          simpa using hi1
        obtain ⟨N, rfl⟩ : ∃ N : Nat, xi = (N : Int) := ⟨xi.toNat, by omega⟩
        have HCX : Hid (∀ w2, Fr (fun _ => False) w w2 → w2.cell? ⟨b, o + k * 2, none⟩ = some (.string xs) ∧ w2.cell? ⟨b, o + k * 2 + 1, none⟩ = some (.int .i64 (N : Int))) := Lib.hid fun w2 hF => by
          obtain ⟨_, _, e, _, p0, p1⟩ := (HR.out.still hF (Nat.le_refl _)).at_ hx
          cases e
          exact ⟨p0, p1⟩
        have HPL := Lib.hid (prL_next hx)
        have hFz := HK.out.2.2.alloc (.cells #[.int .u8 0, .int .u8 0] 5)
        have p1 := (HCX.out _ hFz).2
        have hFz0 := Lib.hid ((Fr.refl (fun _ => False) wr).alloc (.cells #[.int .u8 0, .int .u8 0] 5))
        have HPU : Hid (Calls Try.prog 30 #[.slice (some ⟨wr.heap.size, 0, none⟩) 2 2, .int .i64 0, .int .i64 2, .int .i64 (N : Int)] (wr.alloc (.cells #[.int .u8 0, .int .u8 0] 5)) (NewB2 (wr.alloc (.cells #[.int .u8 0, .int .u8 0] 5)) (putL [0, 0] 0 N 2))) := Lib.hid (by
          refine (rput_at (wr.alloc (.cells #[.int .u8 0, .int .u8 0] 5)) (some ⟨wr.heap.size, 0, none⟩) 2 2 (wr.alloc (.cells #[.int .u8 0, .int .u8 0] 5)).heap.size 0 2 N [0, 0] (fun _ => ⟨wr.heap.size, 0, rfl, by simp, fun j y hj => ?_⟩) rfl (Nat.le_refl _) (fun e => by cases e) (by omega) (by omega) (by omega) (by omega) (by omega)).mono fun e w' h => h.1 (goes_in (by omega))
          rw [cellAt (heap_alloc_new _ _), Nat.zero_add]
          rcases j with _ | _ | j
          · simp at hj; subst hj; rfl
          · simp at hj; subst hj; rfl
          · simp at hj)
        clear hx hit hn1 hi1 hFz
        go_wp2_with fail
        refine HPU.out.mono ?_
        rintro e w5 ⟨A6, c6, rfl, ho6, ha6, hF6⟩
        have hlen6 : (putL [0, 0] 0 N 2).length = 2 := by rw [putL_length]; rfl
        rw [hlen6] at ho6 ⊢
        obtain ⟨g6, hg6⟩ : ∃ g6, A6 = some ⟨g6, 0, none⟩ := by
          rcases ho6.2 with ⟨e, _⟩ | ⟨g, _, _, e, _⟩
          · cases e
          · cases e; exact ⟨g, rfl⟩
        subst hg6
        have hF5 := hFz0.out.trans hF6 (fun _ _ e => e)
        obtain ⟨cur6, hb6, hr6⟩ : ∃ cur6, w5.heap[g6]? = some (.cells cur6 5 (0, 0)) ∧ wr.heap.size < g6 := by
          rcases ho6.2 with ⟨e, _⟩ | ⟨g, c', cur, e, hg, hh, _⟩
          · cases e
          · cases e
            exact ⟨cur, hh, by have : (wr.alloc (.cells #[.int .u8 0, .int .u8 0] 5)).heap.size = wr.heap.size + 1 := World.size_alloc _ _; omega⟩
        have hq : ∀ q, (Value.slice Ao m co).ownBlock = some q → q < wr.heap.size := fun q e => by
          rcases HK.out.2.1.2 with ⟨e', _⟩ | ⟨g, c', cur, e', hg, hh, _⟩
          · rw [e'] at e; cases e
          · rw [e'] at e; cases e
            exact (Array.getElem?_eq_some_iff.1 hh).1
        have hpl : (putL [0, 0] 0 N 2).length = 2 := by rw [putL_length]; rfl
        have hrd6 : Rd w5 w5.heap.size (some ⟨g6, 0, none⟩) (putL [0, 0] 0 N 2) := by
          have h6 := ho6
          rw [← hpl] at h6
          exact Own.rd (cap := c6) h6
        have h6lt := (Array.getElem?_eq_some_iff.1 hb6).1
        have HSRC : Hid (∀ w2 : World, w2.heap[g6]? = some (.cells cur6 5 (0, 0)) → ∀ j u, (bs (putL [0, 0] 0 N 2))[j]? = some u → w2.cell? ((⟨g6, 0, none⟩ : Addr).add j) = some u) := Lib.hid fun w2 h2 j u hu => by
          have h5 := src_own hrd6 j u hu
          rw [add_plain] at h5 ⊢
          rw [← h5]
          exact World.cell?_of_block (w := w5) (w' := w2) (a := ⟨g6, 0 + j, none⟩) (h2.trans hb6.symm)
        have HPLL := Lib.hid hpl
        have H5 := Lib.hid (⟨(HK.out.2.1.kept hF5).kept ((Fr.refl (fun _ => False) w5).drew), (HK.out.2.2.trans hF5 (fun _ _ e => e)).drew, hb6, hr6, h6lt, hq⟩ : Own w5.drew w.heap.size (.slice Ao m co) (prL (l.take k)) ∧ Fr (fun _ => False) w w5.drew ∧ w5.heap[g6]? = some (.cells cur6 5 (0, 0)) ∧ wr.heap.size < g6 ∧ g6 < w5.heap.size ∧ _)
        have HMM := Lib.hid HK.out.1
        have HO5 : Hid (w5.drew.ownsRow w.heap.size 5 1 (.slice Ao m co) m (bs (prL (l.take k)))) := Lib.hid (by
          have h := H5.out.1
          unfold Own at h
          rw [← HMM.out] at h
          exact h)
        have hu := u8_len xs.size
        obtain ⟨lc, hlc⟩ : ∃ lc, lc = UInt8.ofNat xs.size := ⟨_, rfl⟩
        have HLC := Lib.hid hlc
        rw [← hlc] at hu
        clear ho6 ha6 hF6 hF5 hb6 hr6 hq hpl hrd6 h6lt hFz0 HK HPU hlc p1 hlen6
        go_wp2_with fail
        go_region_held3 (fun w' => w'.cell? ⟨b, o + k * 2, none⟩ = some (.string xs))
          (first
            | exact (HCX.out _ H5.out.2.1).1
            | exact (HCX.out _ (H5.out.2.1.alloc _)).1
            | exact (HCX.out _ H7.out.2.1).1
            | exact (HCX.out _ H8.out.2.1).1
            | exact (HCX.out _ H9.out.2).1)
          (first
            | (refine step_append_lies _ rfl (.tmp 28) (.tmp 36) 22 rfl w.heap.size 5 i0 (.int .u8 0) 1 1 Try.underlying22 HI.out.1 HI.out.2.1 HI.out.2.2.1 HI.out.2.2.2 rfl (by omega) _ m (bs (prL (l.take k))) rfl (World.ownsRow.alloc HO5.out _) ⟨w5.heap.size, 0, none⟩ 1 1 [.int .u8 (lc.toNat : Int)] rfl rfl (World.news_of_block (heap_alloc_new w5.drew _)) (by intro u hu; simp at hu; subst hu; rfl) (by omega) (by unfold maxLen; omega) (by omega) (H5.out.2.1.alloc _).size _ rfl ?_; intro g7 cap7 w7 hown7 hg7 hl7 hlt7; have H7 : Hid (w7.ownsRow w.heap.size 5 1 (.slice (some ⟨g7, 0, none⟩) (m + 1) cap7) (m + 1) (bs (prL (l.take k)) ++ [.int .u8 (lc.toNat : Int)]) ∧ Fr (fun _ => False) w w7 ∧ w7.heap[g6]? = some (.cells cur6 5 (0, 0)) ∧ g7 ≠ g6) := (Lib.hid ⟨hown7, (H5.out.2.1.alloc _).grown hg7 (fun q e => own_geB H5.out.1 e), grown_keep (fr_keep H5.out.2.2.1 (((Fr.refl (fun _ => False) w5).drew).alloc _)) hg7 (fun e => by have := H5.out.2.2.2.2.2 _ e; have := H5.out.2.2.2.1; omega), (by rcases hl7 with e | e; exact (by have := H5.out.2.2.2.2.2 _ e; have := H5.out.2.2.2.1; omega); exact (by have h1 : g7 = w5.heap.size + 1 := e.trans (World.size_alloc w5 (.cells #[.int .u8 (lc.toNat : Int)] 5)); have := H5.out.2.2.2.2.1; omega))⟩); clear hown7 hg7 hl7 hlt7)
            | (refine step_append_str rfl (.tmp 37) (.tmp 42) 22 9 rfl w.heap.size 5 i0 Try.underlying22 Try.underlying9 HI.out.1 HI.out.2.1 HI.out.2.2.1 HI.out.2.2.2 _ (m + 1) _ rfl H7.out.1 xs rfl (by unfold maxLen; omega) (by omega) H7.out.2.1.size ?_; intro v8 w8 hown8 hg8; have H8 : Hid (w8.ownsRow w.heap.size 5 1 v8 (m + 1 + xs.size) (bs (prL (l.take k)) ++ [.int .u8 (lc.toNat : Int)] ++ Go.Lib.strCells xs) ∧ Fr (fun _ => False) w w8 ∧ w8.heap[g6]? = some (.cells cur6 5 (0, 0))) := (Lib.hid ⟨hown8, H7.out.2.1.grown hg8 (fun q e => own_geB H7.out.1 e), grown_keep H7.out.2.2.1 hg8 (fun e => H7.out.2.2.2 (Option.some.inj e))⟩); clear hown8 hg8)
            | (refine step_append_any rfl (.tmp 43) (.tmp 44) 22 rfl w.heap.size 5 i0 (.int .u8 0) 1 1 Try.underlying22 HI.out.1 HI.out.2.1 HI.out.2.2.1 HI.out.2.2.2 rfl (by omega) _ (m + 1 + xs.size) _ rfl H8.out.1 ⟨g6, 0, none⟩ 2 c6 (bs (putL [0, 0] 0 N 2)) rfl (by rw [bs_length, HPLL.out]) (HSRC.out _ H8.out.2.2) (bs_one _) (by unfold maxLen; omega) (by omega) H8.out.2.1.size ?_; intro v9 w9 hown9 hg9; have H9 := (Lib.hid (⟨hown9, H8.out.2.1.grown hg9 (fun q e => own_geB H8.out.1 e)⟩ : _ ∧ _)); clear hown9 hg9))
        all_goals
          go_wp2_with fail
          have hlen : (prL (l.take (k + 1))).length = m + 1 + xs.size + 2 := by
            rw [HPL.out, List.length_append, ← HMM.out]
            unfold enB
            have h1 := HPLL.out
            have h2 := toL_length xs
            have h3 : ((xs, (N : Int)).2).toNat = N := rfl
            rw [List.length_cons, List.length_append, h3, h1]
            show m + (xs.toList.length + 2 + 1) = _
            omega
          obtain ⟨A9, c9, e9, ho9⟩ := fin_pr HPL.out hlen.symm (by
            unfold enB
            rw [bs_append, strCells_bs, HLC.out, show ((N : Int)).toNat = N from rfl]
            show _ = bs _ ++ bs (_ :: (_ ++ _))
            simp [bs]) H9.out.1
          rw [hlen] at e9 ho9
          subst e9
          have HEE := Lib.hid (⟨hlen.symm, ho9, H9.out.2⟩ : _ ∧ _ ∧ _)
          clear hlen ho9
          go_roundw
          case rel => exact ⟨k + 1, m + 1 + xs.size + 2, by omega, by go_num, by omega, ⟨_, _, rfl⟩, (show _ ∧ _ from HEE.out)⟩
          case measure => simp [intOf]; omega
      · obtain rfl : k = n := by omega
        have HE := HK.out
        rw [List.take_of_length_le (by rw [← HN.out]; exact Nat.le_refl _)] at HE
        have HE2 := Lib.hid HE
        clear HE HK
        go_wp2_with fail
        go_ret2
        obtain ⟨e1, e2, e3⟩ := HE2.out
        subst e1
        exact Or.inl ⟨HRT.out, Ao, co, rfl, e2, e3⟩
  · rw [decide_eq_false hri] at HRI
    have HRT := Lib.hid hri
    clear hri
    go_enter Try.func13, Try.ntmps13
    go_wp2_with fail
    refine HRI.out.mono ?_
    rintro e w1 ⟨rfl, hC⟩
    have HF1 := Lib.hid hC.fr
    clear hC HRI
    go_wp2_with fail
    go_ret2
    exact Or.inr ⟨HRT.out, rfl, HF1.out⟩
end Go.Proofs.Ytppkmfhlmmlckaa.nm
