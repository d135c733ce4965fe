/-
  The program's Add.
-/
import Derived.Test.YtppkmfhlmmlckaaNpE
namespace Go.Proofs.Ytppkmfhlmmlckaa.nm
set_option maxRecDepth 100000
open Go.RowKit Go.Maps
set_option maxRecDepth 100000

theorem cutN_low (w : World) (A : Option Addr) (n c k : Nat) (hk : k ≤ c) :
    (Instr.slice 23 (.slice A n c) none (some (.int .i64 (k : Int))) none).run Try.prog w = .ok (.slice A k c) w := by
  rw [run_slice_h w 23 A n c Try.underlying23 .i64 k (by omega) (by omega)]
  have hs : (sizeOf (Try.prog.elem 23)).run Try.prog w = .ok 2 w := by kernel_rfl
  rw [hs]
  simp only [Result.andThen, sliced, Int.toNat_natCast, Nat.zero_mul, Nat.sub_zero]
  have : A.map (·.add 0) = A := by cases A <;> simp [add_zero]
  rw [this, ite_self]
def hiA (A : Option Addr) (c k : Nat) : Option Addr := if c = k then A else A.map (·.add (k * 2))
theorem cutN_high (w : World) (A : Option Addr) (n c k : Nat) (hk : k ≤ n) :
    (Instr.slice 23 (.slice A n c) (some (.int .i64 (k : Int))) none none).run Try.prog w = .ok (.slice (hiA A c k) (n - k) (c - k)) w := by
  rw [run_slice_l w 23 A n c Try.underlying23 .i64 k (by omega) (by omega)]
  have hs : (sizeOf (Try.prog.elem 23)).run Try.prog w = .ok 2 w := by kernel_rfl
  rw [hs]
  simp only [Result.andThen, sliced, Int.toNat_natCast]
  rfl
theorem hi_rd {w : World} {A : Option Addr} {c k : Nat} {l : List Nm} (h : RdN w w.heap.size A l) (hc : l.length ≤ c) : RdN w w.heap.size (hiA A c k) (l.drop k) := by
  by_cases hk : k < l.length
  · obtain ⟨b, o, rfl, _⟩ := h.cells (by rintro rfl; simp at hk)
    unfold hiA
    rw [if_neg (by omega)]
    show RdN _ _ (some (Addr.add ⟨b, o, none⟩ (k * 2))) _
    rw [add_plain]
    exact drop_rd h k
  · rw [List.drop_of_length_le (by omega)]
    exact RdN.nil _ _ _
theorem hi_none {A : Option Addr} {c k : Nat} (h : A = none → c = 0) (e : hiA A c k = none) : c - k = 0 := by
  unfold hiA at e
  by_cases hc : c = k
  · omega
  · rw [if_neg hc] at e
    cases A with
    | none => have := h rfl; omega
    | some _ => cases e

theorem cat3_any (w : World) (A1 A2 : Option Addr) (f c1 m c2 : Nat) (l1 l2 L : List Nm) (s : ByteArray) (num : Int) (hL : L = l1 ++ [(s, num)] ++ l2) (e1 : l1.length = f) (e2 : l2.length = m) (h1 : RdN w w.heap.size A1 l1) (z1 : A1 = none → c1 = 0) (h2 : RdN w w.heap.size A2 l2) (z2 : A2 = none → c2 = 0) (hs : s.size ≤ maxLen) (hn : -9223372036854775808 ≤ num ∧ num ≤ 9223372036854775807) (hb : f + 1 + m ≤ 5864062014805) :
    Calls Try.prog 38 #[.slice (some ⟨w.heap.size + 1, 0, none⟩) 3 3] ((w.alloc (objX s num)).alloc (.cells #[.slice A1 f c1, .slice (some ⟨w.heap.size, 0, none⟩) 1 1, .slice A2 m c2] 23)) fun e w' => ∃ A cap, e = .returned (.slice A L.length cap) ∧ OwnN w' w.heap.size (.slice A L.length cap) L ∧ (A = none → cap = 0) ∧ L.length ≤ cap ∧ Fr (fun _ => False) w w' := by
  have hF := (Fr.refl (fun _ => False) w).alloc (objX s num)
  have hsz : (w.alloc (objX s num)).heap.size = w.heap.size + 1 := World.size_alloc _ _
  have h := cat_any (w.alloc (objX s num)) [(A1, c1, l1), (some ⟨w.heap.size, 0, none⟩, 1, [(s, num)]), (A2, c2, l2)] #[.slice A1 f c1, .slice (some ⟨w.heap.size, 0, none⟩) 1 1, .slice A2 m c2] 3 L rfl (by simp [e1, e2]) (by rw [hL]; exact cat3 _ _ _) (by
    intro q hq
    rcases List.mem_cons.1 hq with rfl | hq
    · exact ⟨rdN_fr h1 hF, z1⟩
    · rcases List.mem_cons.1 hq with rfl | hq
      · refine ⟨⟨fun _ => ⟨w.heap.size, 0, rfl, by omega, fun i x hi => ?_⟩, fun x hx => ?_⟩, fun e => by cases e⟩
        · rcases i with _ | i
          · simp at hi
            subst hi
            rw [cellAt (heap_alloc_new w _), cellAt (heap_alloc_new w _)]
            exact ⟨rfl, rfl⟩
          · simp at hi
        · obtain rfl := List.mem_singleton.1 hx
          exact ⟨hs, hn⟩
      · obtain rfl := List.mem_singleton.1 hq
        exact ⟨rdN_fr h2 hF, z2⟩) (by omega) (by rw [hL, List.length_append, List.length_append, e1, e2]; exact hb)
  rw [hsz] at h
  refine h.mono ?_
  rintro e w' ⟨A, cap, rfl, ho, g1, g2, hF'⟩
  exact ⟨A, cap, rfl, ownN_low ho (by omega), g1, g2, hF.trans hF' (fun _ _ e => e)⟩
theorem addZ_cases (l : List Nm) (s : ByteArray) (n : Int) : (nmB s = false ∧ addZ l s n = 71) ∨ (nmB s = true ∧ inB n = false ∧ addZ l s n = 2) ∨ (nmB s = true ∧ inB n = true ∧ firstI l s < l.length ∧ addZ l s n = 6) ∨ (nmB s = true ∧ inB n = true ∧ ¬ firstI l s < l.length ∧ 256 ≤ l.length ∧ addZ l s n = 4) ∨ (nmB s = true ∧ inB n = true ∧ ¬ firstI l s < l.length ∧ l.length < 256 ∧ addZ l s n = 0) := by
  unfold addZ
  rcases look_cases l s with ⟨h1, h2⟩ | ⟨h1, h2, h3⟩ | ⟨h1, x, h2, h3⟩
  · exact Or.inl ⟨h1, by rw [h2]; rfl⟩
  · right
    rw [h3, if_neg (by decide)]
    cases hi : inB n with
    | false => exact Or.inl ⟨h1, rfl, if_pos rfl⟩
    | true =>
      rw [if_neg (by simp), if_neg (by decide)]
      by_cases h4 : 256 ≤ l.length
      · exact Or.inr (Or.inr (Or.inl ⟨h1, rfl, h2, h4, if_pos h4⟩))
      · exact Or.inr (Or.inr (Or.inr ⟨h1, rfl, h2, by omega, if_neg h4⟩))
  · right
    have h71 : ¬ ((x.2, (0 : Int)).2 = 71) := by show ¬ ((0 : Int) = 71); decide
    rw [h3, if_neg h71]
    cases hi : inB n with
    | false => exact Or.inl ⟨h1, rfl, if_pos rfl⟩
    | true =>
      rw [if_neg (by simp), if_pos rfl]
      exact Or.inr (Or.inl ⟨h1, rfl, (List.getElem?_eq_some_iff.1 h2).1, rfl⟩)

set_option maxHeartbeats 4000000 in
theorem padd (w : World) (A : Option Addr) (cap : Nat) (l : List Nm) (s : ByteArray) (num : Int) (hl : In w A cap l) (hs : s.size ≤ maxLen) (hnum : -9223372036854775808 ≤ num ∧ num ≤ 9223372036854775807) :
    Calls Try.prog 21 #[.slice A l.length cap, .string s, .int .i64 num] w (AnsM w (addZ l s num) (insL l s num)) := by
  have HCK := Lib.hid (pcheck w s hs)
  have HIN := Lib.hid (pinode w num)
  have HNM := Lib.hid (pnamed w s)
  have HCT := Lib.hid (contains_named w A cap l s hl.rd (by have := hl.len; omega))
  have HL := Lib.hid (⟨hl, hs, hnum⟩ : _ ∧ _ ∧ _)
  have HLE := Lib.hid (show l.length ≤ cap ∧ l.length ≤ 5864062014805 from ⟨hl.cap, hl.len⟩)
  obtain ⟨n, hn⟩ : ∃ n, n = l.length := ⟨_, rfl⟩
  have HZ := Lib.hid (addZ_cases l s num)
  rw [← hn] at HCT HLE HZ ⊢
  have HN := Lib.hid hn
  have hcn := HLE.out.1
  have hn5 := HLE.out.2
  rcases HZ.out with ⟨h1, h2⟩ | ⟨h1, h2, h3⟩ | ⟨h1, h2, h3, h4⟩ | ⟨h1, h2, h3, h4, h5⟩ | ⟨h1, h2, h3, h4, h5⟩
  · rw [h2]
    rw [chkZ_no h1] at HCK
    clear hl hs hnum hn h1 h2 HZ
    go_enter Try.func21, Try.ntmps21
    go_wp2_with fail
    refine HCK.out.mono ?_
    rintro e w' ⟨rfl, rfl⟩
    go_wp2_with fail
    go_ret2
    exact Or.inr ⟨by decide, none, 0, rfl, Fr.refl _ _⟩
  · rw [h3]
    rw [chkZ_ok h1] at HCK
    rw [h2] at HIN
    clear hl hs hnum hn h1 h2 h3 HZ
    go_enter Try.func21, Try.ntmps21
    go_wp2_with fail
    refine HCK.out.mono ?_
    rintro e w' ⟨rfl, rfl⟩
    go_wp2_with fail
    refine HIN.out.mono ?_
    rintro e w' ⟨rfl, rfl⟩
    go_wp2_with fail
    go_ret2
    exact Or.inr ⟨by decide, none, 0, rfl, Fr.refl _ _⟩
  · rw [h4]
    rw [chkZ_ok h1] at HCK
    rw [h2] at HIN
    rw [decide_eq_true h3] at HCT
    clear hl hs hnum hn h1 h2 h3 h4 HZ
    go_enter Try.func21, Try.ntmps21
    go_wp2_with fail
    refine HCK.out.mono ?_
    rintro e w' ⟨rfl, rfl⟩
    go_wp2_with fail
    refine HIN.out.mono ?_
    rintro e w' ⟨rfl, rfl⟩
    go_wp2_with fail
    refine HNM.out.mono ?_
    rintro e w' ⟨rfl, rfl⟩
    go_wp2_with fail
    refine HCT.out.mono ?_
    rintro e w' ⟨rfl, hF⟩
    have HF := Lib.hid hF
    clear hF
    go_wp2_with fail
    go_ret2
    exact Or.inr ⟨by decide, none, 0, rfl, HF.out⟩
  · rw [h5]
    rw [chkZ_ok h1] at HCK
    rw [h2] at HIN
    rw [decide_eq_false h3] at HCT
    clear hl hs hnum hn h1 h2 h3 h5 HZ
    go_enter Try.func21, Try.ntmps21
    go_wp2_with fail
    refine HCK.out.mono ?_
    rintro e w' ⟨rfl, rfl⟩
    go_wp2_with fail
    refine HIN.out.mono ?_
    rintro e w' ⟨rfl, rfl⟩
    go_wp2_with fail
    refine HNM.out.mono ?_
    rintro e w' ⟨rfl, rfl⟩
    go_wp2_with fail
    refine HCT.out.mono ?_
    rintro e w' ⟨rfl, hF⟩
    have HF := Lib.hid hF
    clear hF
    go_wp2_with fail
    go_ret2
    exact Or.inr ⟨by decide, none, 0, rfl, HF.out⟩
  · rw [h5]
    rw [chkZ_ok h1] at HCK
    rw [h2] at HIN
    rw [decide_eq_false h3] at HCT
    obtain ⟨f, hf⟩ : ∃ f, f = firstG l s := ⟨_, rfl⟩
    have hfn : f ≤ n := by rw [hf, hn]; exact fG_le l s
    have HFF := Lib.hid (show insL l s num = l.take f ++ [(s, num)] ++ l.drop f by rw [hf]; rfl)
    obtain ⟨L, hL⟩ : ∃ L, L = insL l s num := ⟨_, rfl⟩
    have HLL := Lib.hid hL
    rw [← hL]
    have HNG := Lib.hid (fun (w1 : World) => pgreater w1 s)
    have HIG : Hid (∀ w1, Fr (fun _ => False) w w1 → Calls Try.prog 36 #[.slice A n cap, .func (.func 46) #[] #[.pointer (some ⟨w1.heap.size, 0, none⟩)]] (w1.alloc (objS s)) fun e w' => e = .returned (.int .i64 (idxZ f n)) ∧ Fr (fun _ => False) w1 w') := Lib.hid fun w1 hF => by
      have h := index_greater w1 A cap l s (rdN_fr HL.out.1.rd hF) (by have := HL.out.1.len; omega)
      rwa [← hn, ← hf] at h
    have HT := Lib.hid (show (l.take f).length = f by rw [List.length_take, ← HN.out]; omega)
    obtain ⟨m, hm⟩ : ∃ m, m = n - f := ⟨_, rfl⟩
    obtain ⟨c2, hc2⟩ : ∃ c2, c2 = cap - f := ⟨_, rfl⟩
    obtain ⟨A2, hA2⟩ : ∃ A2, A2 = hiA A cap f := ⟨_, rfl⟩
    have HD := Lib.hid (show (l.drop f).length = m by rw [List.length_drop, ← HN.out, hm])
    have HM := Lib.hid (⟨hm, hc2, hA2⟩ : _ ∧ _ ∧ _)
    have hlo : ∀ wx : World, (Instr.slice 23 (.slice A n cap) none (some (.int .i64 (f : Int))) none).run Try.prog wx = .ok (.slice A f cap) wx := fun wx => cutN_low wx A n cap f (by omega)
    have hhi : ∀ wx : World, (Instr.slice 23 (.slice A n cap) (some (.int .i64 (f : Int))) none none).run Try.prog wx = .ok (.slice A2 m c2) wx := fun wx => by rw [hm, hc2, hA2]; exact cutN_high wx A n cap f hfn
    have HLOHI := Lib.hid (⟨hlo, hhi⟩ : _ ∧ _)
    have hnb : f + 1 + m ≤ 5864062014805 := by omega
    clear hl hs hnum hn h1 h2 h3 h5 hf hL hm hc2 hA2 HZ hlo hhi
    go_enter Try.func21, Try.ntmps21
    go_wp2_with fail
    refine HCK.out.mono ?_
    rintro e w' ⟨rfl, rfl⟩
    go_wp2_with fail
    refine HIN.out.mono ?_
    rintro e w' ⟨rfl, rfl⟩
    go_wp2_with fail
    refine HNM.out.mono ?_
    rintro e w' ⟨rfl, rfl⟩
    go_wp2_with fail
    refine HCT.out.mono ?_
    rintro e w1 ⟨rfl, hF⟩
    have HF := Lib.hid hF
    clear hF
    go_wp2_with fail
    refine (HNG.out w1).mono ?_
    rintro e w' ⟨rfl, rfl⟩
    go_wp2_with fail
    refine (HIG.out w1 HF.out).mono ?_
    rintro e w3 ⟨rfl, hF3⟩
    have HF3 := Lib.hid (HF.out.trans hF3 (fun _ _ e => e))
    have HR3 := Lib.hid (rdN_fr HL.out.1.rd HF3.out.drew)
    have HC := Lib.hid (cat3_any w3.drew A A2 f cap m c2 (l.take f) (l.drop f) L s num (by rw [HLL.out, HFF.out]) HT.out HD.out (take_rd HR3.out f) HL.out.1.none_ (by rw [HM.out.2.2]; exact hi_rd HR3.out HL.out.1.cap) (by rw [HM.out.2.1, HM.out.2.2]; exact hi_none HL.out.1.none_) HL.out.2.1 HL.out.2.2 hnb)
    clear hF3 HCK HIN HNM HCT HNG HIG
    rcases Nat.lt_or_ge f n with hlt | hge
    case' inl =>
      rw [idxZ, if_pos hlt]
      have hge0 : ¬ ((f : Int) < 0) := by omega
      go_wp2_with fail
      have hlo := HLOHI.out.1
      have hhi := HLOHI.out.2
    case' inr =>
      rw [idxZ, if_neg (by omega)]
      go_wp2_with fail
      have hlo : ∀ wx : World, (Instr.slice 23 (.slice A n cap) none (some (.int .i64 (n : Int))) none).run Try.prog wx = .ok (.slice A f cap) wx := fun wx => by rw [show (n : Int) = (f : Int) by omega]; exact HLOHI.out.1 wx
      have hhi : ∀ wx : World, (Instr.slice 23 (.slice A n cap) (some (.int .i64 (n : Int))) none none).run Try.prog wx = .ok (.slice A2 m c2) wx := fun wx => by rw [show (n : Int) = (f : Int) by omega]; exact HLOHI.out.2 wx
    all_goals
      go_region_with (go_at_call 38; refine HC.out.mono ?_; rintro e w4 ⟨Av, cv, rfl, ho, g1, g2, hF4⟩)
      go_wp2
      go_ret2
      exact ansM_ok ho g1 g2 HF3.out.drew hF4
end Go.Proofs.Ytppkmfhlmmlckaa.nm
