/-
  The program's find and Look.
-/
import Derived.Test.YtppkmfhlmmlckaaNpC
namespace Go.Proofs.Ytppkmfhlmmlckaa.nm
set_option maxRecDepth 100000
open Go.RowKit Go.Maps

abbrev objS (s : ByteArray) : Obj := .cells #[.string s] 9
theorem pnamed (w : World) (s : ByteArray) : Calls Try.prog 35 #[.string s] w fun e w' => e = .returned (.func (.func 45) #[] #[.pointer (some ⟨w.heap.size, 0, none⟩)]) ∧ w' = w.alloc (objS s) := by
  go_enter Try.func35, Try.ntmps35
  go_wp2
  go_ret
  exact ⟨rfl, rfl⟩
theorem pgreater (w : World) (s : ByteArray) : Calls Try.prog 37 #[.string s] w fun e w' => e = .returned (.func (.func 46) #[] #[.pointer (some ⟨w.heap.size, 0, none⟩)]) ∧ w' = w.alloc (objS s) := by
  go_enter Try.func37, Try.ntmps37
  go_wp2
  go_ret
  exact ⟨rfl, rfl⟩
theorem isAt_named (l : List Nm) (s : ByteArray) : IsAt l (fun x => x.1.toList == s.toList) (firstI l s) :=
  ⟨firstI_le l s, fun j x hj hx => beq_eq_false_iff_ne.2 (fun e => firstI_no l s j x hj hx (toL_inj e)), fun x hx => beq_iff_eq.2 (by rw [firstI_is l s x hx])⟩
theorem fG_le : ∀ (l : List Nm) (s : ByteArray), firstG l s ≤ l.length
  | [], _ => Nat.le_refl _
  | y :: r, s => by
    rw [firstG, List.length_cons]
    have := fG_le r s
    split <;> omega
theorem fG_no : ∀ (l : List Nm) (s : ByteArray), LeTo l s (firstG l s)
  | [], s => LeTo.zero _ _
  | y :: r, s => by
    rw [firstG]
    by_cases h : leS y.1 s = true
    · rw [if_pos h]
      intro j x hj hx
      rcases j with _ | j
      · simp at hx
        subst hx
        exact h
      · exact fG_no r s j x (by omega) (by simpa using hx)
    · rw [if_neg h]
      exact LeTo.zero _ _
theorem fG_is : ∀ (l : List Nm) (s : ByteArray) (x : Nm), l[firstG l s]? = some x → leS x.1 s = false
  | [], _, _, h => by simp [firstG] at h
  | y :: r, s, x, h => by
    by_cases e : leS y.1 s = true
    · rw [firstG, if_pos e] at h
      exact fG_is r s x (by simpa using h)
    · rw [firstG, if_neg e] at h
      simp at h
      subst h
      exact Bool.eq_false_iff.2 e
theorem isAt_greater (l : List Nm) (s : ByteArray) : IsAt l (fun x => !leS x.1 s) (firstG l s) :=
  ⟨fG_le l s, fun j x hj hx => by rw [fG_no l s j x hj hx]; rfl, fun x hx => by rw [fG_is l s x hx]; rfl⟩

theorem enters_named : ∀ args w, (callFunc 45 args).run Try.prog w = .ok (.enter 45 args) w := enters_of Try.func45 (by kernel_rfl) rfl
theorem enters_greater : ∀ args w, (callFunc 46 args).run Try.prog w = .ok (.enter 46 args) w := enters_of Try.func46 (by kernel_rfl) rfl
theorem objS_new (w : World) (s : ByteArray) : (w.alloc (objS s)).heap[w.heap.size]? = some (.cells #[.string s] 9 (0, 0)) := heap_alloc_new w _
theorem index_named (w : World) (A : Option Addr) (cap : Nat) (l : List Nm) (s : ByteArray) (hr : RdN w w.heap.size A l) (hb : l.length ≤ 140737488351232) :
    Calls Try.prog 36 #[.slice A l.length cap, .func (.func 45) #[] #[.pointer (some ⟨w.heap.size, 0, none⟩)]] (w.alloc (objS s)) fun e w' => e = .returned (.int .i64 (idxZ (firstI l s) l.length)) ∧ Fr (fun _ => False) w w' := by
  have hF := (Fr.refl (fun _ => False) w).alloc (objS s)
  refine (index_any (w.alloc (objS s)) A cap l _ _ _ (firstI l s) enters_named ((hr.still hF (Nat.le_refl _)).more hF.size) hb (named1 _ _ s (objS_new w s)) (isAt_named l s)).mono ?_
  rintro e w' ⟨rfl, hF'⟩
  exact ⟨rfl, hF.trans hF' (fun _ _ e => e)⟩
theorem index_greater (w : World) (A : Option Addr) (cap : Nat) (l : List Nm) (s : ByteArray) (hr : RdN w w.heap.size A l) (hb : l.length ≤ 140737488351232) :
    Calls Try.prog 36 #[.slice A l.length cap, .func (.func 46) #[] #[.pointer (some ⟨w.heap.size, 0, none⟩)]] (w.alloc (objS s)) fun e w' => e = .returned (.int .i64 (idxZ (firstG l s) l.length)) ∧ Fr (fun _ => False) w w' := by
  have hF := (Fr.refl (fun _ => False) w).alloc (objS s)
  refine (index_any (w.alloc (objS s)) A cap l _ _ _ (firstG l s) enters_greater ((hr.still hF (Nat.le_refl _)).more hF.size) hb (greater1 _ _ s (objS_new w s)) (isAt_greater l s)).mono ?_
  rintro e w' ⟨rfl, hF'⟩
  exact ⟨rfl, hF.trans hF' (fun _ _ e => e)⟩
theorem contains_named (w : World) (A : Option Addr) (cap : Nat) (l : List Nm) (s : ByteArray) (hr : RdN w w.heap.size A l) (hb : l.length ≤ 140737488351232) :
    Calls Try.prog 34 #[.slice A l.length cap, .func (.func 45) #[] #[.pointer (some ⟨w.heap.size, 0, none⟩)]] (w.alloc (objS s)) fun e w' => e = .returned (.bool (decide (firstI l s < l.length))) ∧ Fr (fun _ => False) w w' := by
  have HC := Lib.hid (index_named w A cap l s hr hb)
  obtain ⟨z, hz⟩ : ∃ z, z = idxZ (firstI l s) l.length := ⟨_, rfl⟩
  obtain ⟨n, hn⟩ : ∃ n, n = l.length := ⟨_, rfl⟩
  obtain ⟨f, hf⟩ : ∃ f, f = firstI l s := ⟨_, rfl⟩
  rw [← hz, ← hn] at HC
  rw [← hn, ← hf] at hz ⊢
  by_cases hlt : f < n
  · rw [idxZ, if_pos hlt] at hz
    rw [decide_eq_true hlt]
    clear hr hb hn hf hlt
    have hz0 : 0 ≤ z := by omega
    clear hz
    go_enter Try.func34, Try.ntmps34
    go_wp2_with fail
    refine HC.out.mono ?_
    rintro e w' ⟨rfl, hF⟩
    have HF := Lib.hid hF
    clear hF
    go_wp2_with fail
    go_ret
    exact ⟨rfl, HF.out⟩
  · rw [idxZ, if_neg hlt] at hz
    rw [decide_eq_false hlt]
    subst hz
    clear hr hb hn hf hlt
    go_enter Try.func34, Try.ntmps34
    go_wp2_with fail
    refine HC.out.mono ?_
    rintro e w' ⟨rfl, hF⟩
    have HF := Lib.hid hF
    clear hF
    go_wp2_with fail
    go_ret
    exact ⟨rfl, HF.out⟩

/-- Where find finds it. -/
theorem look_cases (l : List Nm) (s : ByteArray) : (nmB s = false ∧ lookR l s = (0, 71)) ∨ (nmB s = true ∧ ¬ firstI l s < l.length ∧ lookR l s = (0, 5)) ∨ (nmB s = true ∧ ∃ x, l[firstI l s]? = some x ∧ lookR l s = (x.2, 0)) := by
  cases h : nmB s with
  | false => exact Or.inl ⟨rfl, lookR_no h⟩
  | true =>
    by_cases hlt : firstI l s < l.length
    · have hx := List.getElem?_eq_getElem hlt
      exact Or.inr (Or.inr ⟨rfl, _, hx, lookR_at h (firstI_no l s) hx (firstI_is l s _ hx)⟩)
    · refine Or.inr (Or.inl ⟨rfl, hlt, ?_⟩)
      unfold lookR
      rw [if_pos h, List.getElem?_eq_none (by omega)]
def findZ (l : List Nm) (s : ByteArray) : Int := if (lookR l s).2 = 0 then (firstI l s : Int) else 0

set_option maxHeartbeats 2000000 in
theorem pfind (w : World) (A : Option Addr) (cap : Nat) (l : List Nm) (s : ByteArray) (hr : RdN w w.heap.size A l) (hb : l.length ≤ 140737488351232) (hs : s.size ≤ maxLen) :
    Calls Try.prog 32 #[.slice A l.length cap, .string s] w fun e w' => e = .returned (.tuple #[.int .i64 (findZ l s), .int .i64 (lookR l s).2]) ∧ Fr (fun _ => False) w w' := by
  have HCK := Lib.hid (pcheck w s hs)
  have HIX := Lib.hid (index_named w A cap l s hr hb)
  have HNM := Lib.hid (pnamed w s)
  obtain ⟨n, hn⟩ : ∃ n, n = l.length := ⟨_, rfl⟩
  rw [← hn] at hb HIX ⊢
  unfold findZ
  rcases look_cases l s with ⟨h1, h2⟩ | ⟨h1, h2, h3⟩ | ⟨h1, x, h2, h3⟩
  · rw [h2]
    rw [chkZ_no h1] at HCK
    clear hr hn h1 h2
    go_enter Try.func32, Try.ntmps32
    go_wp2_with fail
    refine HCK.out.mono ?_
    rintro e w' ⟨rfl, rfl⟩
    go_wp2_with fail
    go_ret2
    exact ⟨rfl, Fr.refl _ _⟩
  · rw [h3]
    rw [chkZ_ok h1] at HCK
    rw [idxZ, if_neg (by rw [hn]; exact h2)] at HIX
    clear hr hn h1 h2 h3
    go_enter Try.func32, Try.ntmps32
    go_wp2_with fail
    refine HCK.out.mono ?_
    rintro e w' ⟨rfl, rfl⟩
    go_wp2_with fail
    refine HNM.out.mono ?_
    rintro e w' ⟨rfl, rfl⟩
    go_wp2_with fail
    refine HIX.out.mono ?_
    rintro e w' ⟨rfl, hF⟩
    have HF := Lib.hid hF
    clear hF
    go_wp2_with fail
    go_ret2
    exact ⟨rfl, HF.out⟩
  · rw [h3]
    rw [chkZ_ok h1] at HCK
    have hlt : firstI l s < n := by rw [hn]; exact (List.getElem?_eq_some_iff.1 h2).1
    rw [idxZ, if_pos hlt] at HIX
    rw [if_pos rfl]
    obtain ⟨f, hf⟩ : ∃ f, f = firstI l s := ⟨_, rfl⟩
    rw [← hf] at HIX hlt ⊢
    clear hr hn h1 h2 h3 hf
    go_enter Try.func32, Try.ntmps32
    go_wp2_with fail
    refine HCK.out.mono ?_
    rintro e w' ⟨rfl, rfl⟩
    go_wp2_with fail
    refine HNM.out.mono ?_
    rintro e w' ⟨rfl, rfl⟩
    go_wp2_with fail
    refine HIX.out.mono ?_
    rintro e w' ⟨rfl, hF⟩
    have HF := Lib.hid hF
    clear hF
    go_wp2_with fail
    go_ret2
    exact ⟨rfl, HF.out⟩

set_option maxHeartbeats 2000000 in
theorem plook (w : World) (A : Option Addr) (cap : Nat) (l : List Nm) (s : ByteArray) (hr : RdN w w.heap.size A l) (hb : l.length ≤ 140737488351232) (hs : s.size ≤ maxLen) :
    Calls Try.prog 19 #[.slice A l.length cap, .string s] w fun e w' => e = .returned (.tuple #[.int .i64 (lookR l s).1, .int .i64 (lookR l s).2]) ∧ Fr (fun _ => False) w w' := by
  have HFD := Lib.hid (pfind w A cap l s hr hb hs)
  obtain ⟨n, hn⟩ : ∃ n, n = l.length := ⟨_, rfl⟩
  unfold findZ at HFD
  rw [← hn] at hb HFD ⊢
  rcases look_cases l s with ⟨h1, h2⟩ | ⟨h1, h2, h3⟩ | ⟨h1, x, h2, h3⟩
  · rw [h2] at HFD ⊢
    clear hr hn h1 h2
    go_enter Try.func19, Try.ntmps19
    go_wp2_with fail
    refine HFD.out.mono ?_
    rintro e w' ⟨rfl, hF⟩
    have HF := Lib.hid hF
    clear hF
    go_wp2_with fail
    go_ret2
    exact ⟨rfl, HF.out⟩
  · rw [h3] at HFD ⊢
    clear hr hn h1 h2 h3
    go_enter Try.func19, Try.ntmps19
    go_wp2_with fail
    refine HFD.out.mono ?_
    rintro e w' ⟨rfl, hF⟩
    have HF := Lib.hid hF
    clear hF
    go_wp2_with fail
    go_ret2
    exact ⟨rfl, HF.out⟩
  · rw [h3] at HFD ⊢
    rw [if_pos rfl] at HFD
    have hlt : firstI l s < n := by rw [hn]; exact (List.getElem?_eq_some_iff.1 h2).1
    have HX := Lib.hid h2
    have HR := Lib.hid hr
    obtain ⟨f, hf⟩ : ∃ f, f = firstI l s := ⟨_, rfl⟩
    rw [← hf] at HFD HX hlt
    clear hr hn h1 h2 h3 hf
    go_enter Try.func19, Try.ntmps19
    go_wp2_with fail
    refine HFD.out.mono ?_
    rintro e w' ⟨rfl, hF⟩
    have HF := Lib.hid hF
    obtain ⟨b, o, rfl, _, p0, p1⟩ := (HR.out.still hF (Nat.le_refl _)).at_ HX.out
    obtain ⟨xs, xi⟩ := x
    clear hF
    have h0 : (0 : Int) ≤ f := by omega
    have h1 : (f : Int) < n := by omega
    go_wp2_with fail
    go_ret2
    exact ⟨rfl, HF.out⟩
end Go.Proofs.Ytppkmfhlmmlckaa.nm
