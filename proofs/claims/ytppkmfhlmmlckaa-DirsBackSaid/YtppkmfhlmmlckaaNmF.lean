/-
  The document's Remove.
-/
import Derived.Test.YtppkmfhlmmlckaaNmE
import Derived.Deep.AppendLies
import Derived.Deep.RegionLaw
namespace Go.Proofs.Ytppkmfhlmmlckaa.nm
set_option maxRecDepth 100000
open Go.RowKit Go.Maps
set_option maxRecDepth 100000

/-- An append, at a step of a region that draws. -/
theorem step_append_any {P : Program} {w : World} {ops : Array Oper} {o : Oper} {a : Act} {K : Act → World → Prop} {Q : Exit → Act → World → Prop} {E : Prop} (hgd : o.guard = none) (s x : Operand) (t : TypeId)
    (ho : o.op = .call { callee := .builtin .append, args := #[s, x], argTypes := #[t, t] })
    (base : Nat) (e : TypeId) (i : TypeInfo) (z : Value) (size bytes : Nat) (ht : P.underlying t = some (.slice e)) (hi : P.info? e = some i) (hz : i.zero = some z)
    (hsize : i.size = size) (hby : i.bytes = bytes) (hzs : z.cells.size = size) (hsz : 0 < size)
    (v : Value) (n : Nat) (xs : List Value) (hs : a.eval s = v) (hown : w.ownsRow base e size v n xs)
    (ad : Addr) (m c : Nat) (news : List Value) (hx : a.eval x = .slice (some ad) m c) (hl : news.length = m * size) (hnews : ∀ j u, news[j]? = some u → w.cell? (ad.add j) = some u) (h1 : ∀ u ∈ news, u.oneCell' = true)
    (h63 : n + m ≤ maxLen) (hbytes : (n + m) * bytes ≤ 140737488355328) (hbase : base ≤ w.heap.size)
    (h : ∀ v' w', w'.ownsRow base e size v' (n + m) (xs ++ news) → w.grownBy w' v.ownBlock → K (a.put o.dst v') w') :
    if Region.wanted o (yielded ops a.tmps) = true then Oper.wp P o a w K Q else E := by
  have hw : Region.wanted o (yielded ops a.tmps) = true := by simp [Region.wanted, hgd]
  rw [if_pos hw]
  exact wp_append_own w s x t ho base e i z size bytes ht hi hz hsize hby hzs hsz v n xs hs hown ad m c news hx hl hnews h1 h63 hbytes hbase fun v' w' h2 h3 _ => h v' w' h2 h3

/-- The names without the first one that is so called. -/
def rmL (l : List Nm) (s : ByteArray) : List Nm := l.take (firstI l s) ++ l.drop (firstI l s + 1)
/-- New names, and an answer. -/
def AnsN (w : World) (z : Int) (l : List Nm) (e : Ending) (w' : World) : Prop :=
  (z = 0 ∧ ∃ A cap, e = .returned (.tuple #[.slice A l.length cap, .int .i64 0]) ∧ OwnN w' w.heap.size (.slice A l.length cap) l ∧ Fr (fun _ => False) w w') ∨ (z ≠ 0 ∧ e = .returned (.tuple #[.slice none 0 0, .int .i64 z]) ∧ w = w')
theorem take_rd {w : World} {B : Nat} {A : Option Addr} {l : List Nm} (h : RdN w B A l) (k : Nat) : RdN w B A (l.take k) := ⟨fun hne => by
  obtain ⟨b, o, e, hb, hc⟩ := h.cells (by rintro rfl; simp at hne)
  exact ⟨b, o, e, hb, fun i x hi => hc i x (by rw [List.getElem?_take] at hi; split at hi; exact hi; cases hi)⟩, fun x hx => h.wf x (List.mem_of_mem_take hx)⟩
theorem drop_rd {w : World} {B b o : Nat} {l : List Nm} (h : RdN w B (some ⟨b, o, none⟩) l) (k : Nat) : RdN w B (some ⟨b, o + k * 2, none⟩) (l.drop k) := ⟨fun hne => by
  obtain ⟨_, _, e, hb, hc⟩ := h.cells (by rintro rfl; simp at hne)
  cases e
  refine ⟨b, o + k * 2, rfl, hb, fun i x hi => ?_⟩
  rw [List.getElem?_drop] at hi
  have := hc (k + i) x hi
  rw [show o + (k + i) * 2 = o + k * 2 + i * 2 by omega] at this
  exact this, fun x hx => h.wf x (List.mem_of_mem_drop hx)⟩

theorem own_ge {w0 w : World} {n : Nat} {v : Value} {xs : List Value} {q : Nat} (h : w.ownsRow w0.heap.size 41 2 v n xs) (e : v.ownBlock = some q) : False ∨ w0.heap.size ≤ q := by
  rcases h.2 with ⟨rfl, _⟩ | ⟨g, cap, cur, rfl, hg, _⟩
  · cases e
  · cases e
    exact Or.inr hg
theorem ans_of {w w' : World} {l : List Nm} {s : ByteArray} {k m : Nat} {v : Value} (ht : (l.take k).length = k) (hd : (l.drop (k + 1)).length = m) (hf : firstI l s = k) (_ : True) (ho : w'.ownsRow w.heap.size 41 2 v (0 + k + m) ([] ++ ncs (l.take k) ++ ncs (l.drop (k + 1)))) (hF : Fr (fun _ => False) w w') :
    (0 : Int) = 0 ∧ ∃ A cap, Ending.returned (.tuple #[v, .int .i64 0]) = .returned (.tuple #[.slice A (rmL l s).length cap, .int .i64 0]) ∧ OwnN w' w.heap.size (.slice A (rmL l s).length cap) (rmL l s) ∧ Fr (fun _ => False) w w' := by
  obtain ⟨A, cap, rfl, h⟩ := OwnN.shape (l := rmL l s) (by unfold rmL; rw [List.length_append, hf, ht, hd]; omega) (by unfold rmL; rw [ncs_append, hf]; rfl) ho
  exact ⟨rfl, A, cap, rfl, h, hF⟩
set_option maxHeartbeats 2000000 in
theorem rremove (w : World) (A : Option Addr) (cap : Nat) (l : List Nm) (s : ByteArray) (hr : RdN w w.heap.size A l) (hcap : l.length ≤ cap) (hb : l.length ≤ 5864062014805) (hs : s.size ≤ maxLen) :
    Calls Try.prog 24 #[.slice A l.length cap, .string s] w (AnsN w (lookR l s).2 (rmL l s)) := by
  have HLK := Lib.hid (rlook w A cap l s hr (by omega) hs)
  obtain ⟨n, hn⟩ : ∃ n, n = l.length := ⟨_, rfl⟩
  obtain ⟨r0, h0⟩ : ∃ r0, r0 = (lookR l s).1 := ⟨_, rfl⟩
  obtain ⟨r1, h1⟩ : ∃ r1, r1 = (lookR l s).2 := ⟨_, rfl⟩
  rw [← h0, ← h1, ← hn] at HLK
  rw [← h1]
  rw [← hn] at hb hcap ⊢
  have HR := Lib.hid hr
  have HN := Lib.hid hn
  have HL := Lib.hid (⟨h0, h1⟩ : _ ∧ _)
  clear hr hn h0 h1
  by_cases hz : r1 = 0
  · subst hz
    have HNM : Hid (nmB s = true) := Lib.hid (by
      cases h : nmB s
      · have := HL.out.2
        rw [lookR_no h] at this
        cases this
      · rfl)
    go_enter Try.func24, Try.ntmps24
    go_wp2_with fail
    refine HLK.out.mono ?_
    rintro e w' ⟨rfl, rfl⟩
    go_wp2_with fail
    go_loop [8] (fun i => ∃ k : Nat, k ≤ n ∧ i = .int .i64 k ∧ Hid (NoTo l s k)) (fun i => n - (intOf i).toNat)
    case atStart => exact ⟨0, Nat.zero_le _, rfl, (show NoTo l s 0 from NoTo.zero _ _)⟩
    case round =>
      obtain ⟨k, hk, rfl, HK⟩ := hrel
      by_cases hlt : k < n
      · obtain ⟨x, hx⟩ : ∃ x, l[k]? = some x := ⟨_, List.getElem?_eq_getElem (by have := HN.out; omega)⟩
        obtain ⟨b, o, rfl, _, p0, p1⟩ := HR.out.at_ hx
        obtain ⟨xs, xi⟩ := x
        by_cases he : xs.toList = s.toList
        · have HF := Lib.hid (firstI_at l s k _ HK.out hx (toL_inj he))
          have he2 : (xs.toList == s.toList) = true := beq_iff_eq.2 he
          clear hx
          obtain ⟨i0, hi, hz0, hz1, hz2⟩ := info_parts infoN
          have HI := Lib.hid (⟨hi, hz0, hz1, hz2⟩ : _ ∧ _ ∧ _ ∧ _)
          clear hi hz0 hz1 hz2
          have hk1 : k + 1 ≤ n := by omega
          have hkc : k ≤ cap := by omega
          have hkc1 : k + 1 ≤ cap := by omega
          have hA0 : (0 : Int) ≤ (k : Int) + 1 := by omega
          have hB0 : (k : Int) + 1 ≤ n := by omega
          have hC0 : (k : Int) ≤ (k : Int) + 1 := by omega
          have hwr : IntKind.i64.wrap ((k : Int) + 1) = (k : Int) + 1 := IntWalk.i64_in _ (by omega)
          have HT := Lib.hid (show (l.take k).length = k by rw [List.length_take, ← HN.out]; omega)
          have HD := Lib.hid (show (l.drop (k + 1)).length = n - (k + 1) by rw [List.length_drop, ← HN.out])
          have HFA := Lib.hid (((Fr.refl (fun _ => False) w).alloc (.cells #[] 41)).drew)
          have HO0 := Lib.hid (show OwnN (w.alloc (.cells #[] 41)).drew w.heap.size (.slice (some ⟨w.heap.size, 0, none⟩) 0 0) [] from (ownN_made w).kept ((Fr.refl _ _).drew))
          have HS1 := Lib.hid ((take_rd HR.out k).still HFA.out (Nat.le_refl _))
          have HS2 : Hid (∀ w2, Fr (fun _ => False) w w2 → RdN w2 w.heap.size (some ⟨b, o + (k + 1) * 2, none⟩) (l.drop (k + 1))) := Lib.hid fun w2 hF => (drop_rd HR.out (k + 1)).still hF (Nat.le_refl _)
          have HS3 : Hid (cap = k + 1 → ∀ w2, Fr (fun _ => False) w w2 → RdN w2 w.heap.size (some ⟨b, o, none⟩) (l.drop (k + 1))) := Lib.hid fun e w2 hF => by
            rw [List.drop_of_length_le (by have := HN.out; omega)]
            exact RdN.nil _ _ _
          go_wp2_with fail
          by_cases hcc : cap = k + 1
          · have HS4 := Lib.hid (HS3.out hcc)
            clear HS3 HS2
            have HD0 := Lib.hid (show (l.drop (k + 1)).length = 0 by rw [HD.out]; omega)
            subst hcc
            go_region_law
              (first
                | (refine step_append_any (by rfl) (.tmp 31) (.tmp 34) 23 (by rfl) w.heap.size 41 i0 zeroN 2 24 Try.underlying23 HI.out.1 HI.out.2.1 HI.out.2.2.1 HI.out.2.2.2 rfl (by omega) _ 0 [] (by rfl) HO0.out ⟨b, o, none⟩ k (k + 1) (ncs (l.take k)) (by rfl) (by rw [ncs_length, HT.out]) (srcN HS1.out) (ncs_one _) (by unfold maxLen; omega) (by omega) (by simp) ?_; intro v1 w1 hown1 hg1; have H1 := Lib.hid (⟨hown1, HFA.out.grown hg1 (fun q e => Or.inr (by cases e; exact Nat.le_refl _))⟩ : _ ∧ _); clear hown1 hg1)
                | (refine step_append_any (by rfl) (.tmp 35) (.tmp 39) 23 (by rfl) w.heap.size 41 i0 zeroN 2 24 Try.underlying23 HI.out.1 HI.out.2.1 HI.out.2.2.1 HI.out.2.2.2 rfl (by omega) _ (0 + k) ([] ++ ncs (l.take k)) (by rfl) H1.out.1 ⟨b, o, none⟩ 0 0 (ncs (l.drop (k + 1))) (by rfl) (by rw [ncs_length, HD0.out]) (srcN (HS4.out _ H1.out.2)) (ncs_one _) (by unfold maxLen; omega) (by omega) H1.out.2.size ?_; intro v2 w2 hown2 hg2; have H2 := Lib.hid (⟨hown2, H1.out.2.grown hg2 (fun q e => own_ge H1.out.1 e)⟩ : _ ∧ _); clear hown2 hg2))
            all_goals
              go_wp2
              go_ret2
              exact Or.inl (ans_of HT.out HD0.out HF.out trivial H2.out.1 H2.out.2)
          · clear HS3
            go_region_law
              (first
                | (refine step_append_any (by rfl) (.tmp 31) (.tmp 34) 23 (by rfl) w.heap.size 41 i0 zeroN 2 24 Try.underlying23 HI.out.1 HI.out.2.1 HI.out.2.2.1 HI.out.2.2.2 rfl (by omega) _ 0 [] (by rfl) HO0.out ⟨b, o, none⟩ k cap (ncs (l.take k)) (by rfl) (by rw [ncs_length, HT.out]) (srcN HS1.out) (ncs_one _) (by unfold maxLen; omega) (by omega) (by simp) ?_; intro v1 w1 hown1 hg1; have H1 := Lib.hid (⟨hown1, HFA.out.grown hg1 (fun q e => Or.inr (by cases e; exact Nat.le_refl _))⟩ : _ ∧ _); clear hown1 hg1)
                | (refine step_append_any (by rfl) (.tmp 35) (.tmp 39) 23 (by rfl) w.heap.size 41 i0 zeroN 2 24 Try.underlying23 HI.out.1 HI.out.2.1 HI.out.2.2.1 HI.out.2.2.2 rfl (by omega) _ (0 + k) ([] ++ ncs (l.take k)) (by rfl) H1.out.1 ⟨b, o + (k + 1) * 2, none⟩ (n - (k + 1)) (cap - (k + 1)) (ncs (l.drop (k + 1))) (by rfl) (by rw [ncs_length, HD.out]) (srcN (HS2.out _ H1.out.2)) (ncs_one _) (by unfold maxLen; omega) (by omega) H1.out.2.size ?_; intro v2 w2 hown2 hg2; have H2 := Lib.hid (⟨hown2, H1.out.2.grown hg2 (fun q e => own_ge H1.out.1 e)⟩ : _ ∧ _); clear hown2 hg2))
            all_goals
              go_wp2
              go_ret2
              exact Or.inl (ans_of HT.out HD.out HF.out trivial H2.out.1 H2.out.2)
        · have HE := Lib.hid (HK.out.next hx (fun e => he (congrArg ByteArray.toList e)))
          have he2 : (xs.toList == s.toList) = false := beq_eq_false_iff_ne.2 he
          clear hx
          go_wp2_with fail
          go_round
          case rel => exact ⟨k + 1, by omega, by go_num, HE⟩
          case measure => simp [intOf]; omega
      · obtain rfl : k = n := by omega
        have HE := Lib.hid (lookR_none HNM.out (by rw [← HN.out]; exact HK.out))
        exact absurd HL.out.2 (by rw [HE.out]; simp)
  · have hzb : (r1 != 0) = true := by simpa using hz
    have HZ := Lib.hid hz
    clear hz
    go_enter Try.func24, Try.ntmps24
    go_wp2_with fail
    refine HLK.out.mono ?_
    rintro e w' ⟨rfl, rfl⟩
    go_wp2_with fail
    go_ret2
    exact Or.inr ⟨HZ.out, rfl, rfl⟩
end Go.Proofs.Ytppkmfhlmmlckaa.nm
