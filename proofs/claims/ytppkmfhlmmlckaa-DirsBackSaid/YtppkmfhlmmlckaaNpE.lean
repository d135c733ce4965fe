/-
  Concat of slices that stand in a literal; the program's Remove.
-/
import Derived.Test.YtppkmfhlmmlckaaNpD
import Derived.Test.YtppkmfhlmmlckaaNmQ
import Derived.Test.YtppkmfhlmmlckaaNmT
namespace Go.Proofs.Ytppkmfhlmmlckaa.nm
set_option maxRecDepth 100000
open Go.RowKit Go.Maps
set_option maxRecDepth 100000

theorem ownN_low {w : World} {B B' : Nat} {v : Value} {l : List Nm} (h : OwnN w B v l) (hB : B' ≤ B) : OwnN w B' v l := by
  obtain ⟨h1, h2⟩ := h
  refine ⟨h1, ?_⟩
  rcases h2 with h2 | ⟨g, cap, cur, hv, hg, r⟩
  · exact Or.inl h2
  · exact Or.inr ⟨g, cap, cur, hv, Nat.le_trans hB hg, r⟩
/-- A new slice of these names, below whatever base. -/
def NewC (w : World) (l : List Nm) (e : Ending) (w' : World) : Prop := ∃ A cap, e = .returned (.slice A l.length cap) ∧ OwnN w' w.heap.size (.slice A l.length cap) l ∧ (A = none → cap = 0) ∧ l.length ≤ cap ∧ Fr (fun _ => False) w w'
theorem cat_any (w : World) (P : List Pt) (cs : Array Value) (n : Nat) (L : List Nm) (hn : P.length = n) (hcs : cs = (P.map ptV).toArray) (hL : cat P P.length = L) (h : ∀ q ∈ P, RdN w w.heap.size q.1 q.2.2 ∧ (q.1 = none → q.2.1 = 0)) (hm : n ≤ 1000) (hl : L.length ≤ 5864062014805) :
    Calls Try.prog 38 #[.slice (some ⟨w.heap.size, 0, none⟩) n n] (w.alloc (.cells cs 23)) (NewC w L) := by
  subst hn
  subst hL
  have hF := (Fr.refl (fun _ => False) w).alloc (.cells cs 23)
  have hs : (w.alloc (.cells cs 23)).heap.size = w.heap.size + 1 := World.size_alloc _ _
  refine (concat_any (w.alloc (.cells cs 23)) w.heap.size 0 P.length P ⟨fun k q hk => ?_, by omega, fun k q hk => ?_⟩ hm hl).mono ?_
  · rw [cellAt (heap_alloc_new w _), hcs, Nat.zero_add, List.getElem?_toArray, List.getElem?_map, hk]
    rfl
  · obtain ⟨h1, h2⟩ := h q (List.mem_of_getElem? hk)
    exact ⟨(h1.still hF (Nat.le_refl _)).more hF.size, h2⟩
  · rintro e w' ⟨v, rfl, ho, hF'⟩
    obtain ⟨A, cap, rfl, ho⟩ := OwnN.shape rfl rfl ho
    exact ⟨A, cap, rfl, ownN_low ho (by omega), (own_cap ho).1, (own_cap ho).2, hF.trans hF' (fun _ _ e => e)⟩
theorem cat2 (a b : Pt) : cat [a, b] 2 = a.2.2 ++ b.2.2 := by simp [cat]
theorem cat3 (a b c : Pt) : cat [a, b, c] 3 = a.2.2 ++ b.2.2 ++ c.2.2 := by simp [cat]
theorem ansM_ok {w0 w w' : World} {L : List Nm} {A : Option Addr} {cap : Nat} (ho : OwnN w' w.heap.size (.slice A L.length cap) L) (h1 : A = none → cap = 0) (h2 : L.length ≤ cap) (hF0 : Fr (fun _ => False) w0 w) (hF : Fr (fun _ => False) w w') :
    AnsM w0 0 L (.returned (.tuple #[.slice A L.length cap, .int .i64 0])) w' := Or.inl ⟨rfl, A, cap, rfl, ownN_low ho hF0.size, h1, h2, hF0.trans hF (fun _ _ e => e)⟩

set_option maxHeartbeats 2000000 in
theorem premove (w : World) (A : Option Addr) (cap : Nat) (l : List Nm) (s : ByteArray) (hl : In w A cap l) (hs : s.size ≤ maxLen) :
    Calls Try.prog 23 #[.slice A l.length cap, .string s] w (AnsM w (lookR l s).2 (rmL l s)) := by
  have HFD := Lib.hid (pfind w A cap l s hl.rd (by have := hl.len; omega) hs)
  obtain ⟨n, hn⟩ : ∃ n, n = l.length := ⟨_, rfl⟩
  unfold findZ at HFD
  rw [← hn] at HFD ⊢
  rcases look_cases l s with ⟨h1, h2⟩ | ⟨h1, h2, h3⟩ | ⟨h1, x, h2, h3⟩
  · rw [h2] at HFD ⊢
    clear hl hn h1 h2
    go_enter Try.func23, Try.ntmps23
    go_wp2_with fail
    refine HFD.out.mono ?_
    rintro e w' ⟨rfl, hF⟩
    have HF := Lib.hid hF
    clear hF
    go_wp2_with fail
    go_ret2
    exact Or.inr ⟨by decide, none, 0, rfl, HF.out⟩
  · rw [h3] at HFD ⊢
    clear hl hn h1 h2 h3
    go_enter Try.func23, Try.ntmps23
    go_wp2_with fail
    refine HFD.out.mono ?_
    rintro e w' ⟨rfl, hF⟩
    have HF := Lib.hid hF
    clear hF
    go_wp2_with fail
    go_ret2
    exact Or.inr ⟨by decide, none, 0, rfl, HF.out⟩
  · rw [h3] at HFD ⊢
    rw [if_pos rfl] at HFD
    obtain ⟨b, o, rfl, hb, p0, p1⟩ := hl.rd.at_ h2
    have HL := Lib.hid hl
    have HN := Lib.hid hn
    obtain ⟨f, hf⟩ : ∃ f, f = firstI l s := ⟨_, rfl⟩
    have hk : f < n := by rw [hf, hn]; exact (List.getElem?_eq_some_iff.1 h2).1
    have hn5 : n ≤ 5864062014805 := by rw [hn]; exact hl.len
    have hcn : n ≤ cap := by rw [hn]; exact hl.cap
    have HFF := Lib.hid (show rmL l s = l.take f ++ l.drop (f + 1) by rw [hf]; rfl)
    rw [← hf] at HFD
    have HT := Lib.hid (show (l.take f).length = f by rw [List.length_take, ← HN.out]; omega)
    have HD := Lib.hid (show (l.drop (f + 1)).length = n - (f + 1) by rw [List.length_drop, ← HN.out])
    have hk1 : f + 1 ≤ n := by omega
    have hkc : f ≤ cap := by omega
    have hkc1 : f + 1 ≤ cap := by omega
    have hA0 : (0 : Int) ≤ (f : Int) + 1 := by omega
    have hB0 : (f : Int) + 1 ≤ n := by omega
    have hC0 : (f : Int) ≤ (f : Int) + 1 := by omega
    have hwr : IntKind.i64.wrap ((f : Int) + 1) = (f : Int) + 1 := IntWalk.i64_in _ (by omega)
    obtain ⟨L, hL⟩ : ∃ L, L = rmL l s := ⟨_, rfl⟩
    have HLL := Lib.hid hL
    rw [← hL]
    clear hl hn h1 h2 h3 hf p0 p1 hb hL
    go_enter Try.func23, Try.ntmps23
    go_wp2_with fail
    refine HFD.out.mono ?_
    rintro e w1 ⟨rfl, hF⟩
    have HF := Lib.hid (hF.drew)
    have HRL := Lib.hid (rdN_fr HL.out.rd HF.out)
    clear hF
    go_wp2_with fail
    by_cases hcc : cap = f + 1
    · have HD0 := Lib.hid (show (l.drop (f + 1)).length = 0 by rw [HD.out]; omega)
      have hnf : n = f + 1 := by omega
      subst hcc
      have HC := Lib.hid (cat_any w1.drew [(some ⟨b, o, none⟩, f + 1, l.take f), (some ⟨b, o, none⟩, 0, l.drop (f + 1))] #[.slice (some ⟨b, o, none⟩) f (f + 1), .slice (some ⟨b, o, none⟩) 0 0] 2 L rfl (by simp [HT.out, HD0.out]) (by rw [HLL.out, HFF.out]; exact cat2 _ _)
        (by
          intro q hq
          rcases List.mem_cons.1 hq with rfl | hq
          · exact ⟨take_rd HRL.out f, fun e => by cases e⟩
          · obtain rfl := List.mem_singleton.1 hq
            refine ⟨?_, fun e => by cases e⟩
            show RdN _ _ _ (l.drop (f + 1))
            rw [List.eq_nil_of_length_eq_zero HD0.out]
            exact RdN.nil _ _ _) (by omega) (by rw [HLL.out, HFF.out, List.length_append, HT.out, HD0.out]; omega))
      clear HD0
      go_region_with (go_at_call 38; refine HC.out.mono ?_; rintro e w2 ⟨Av, cv, rfl, ho, h1, h2, hF2⟩)
      go_wp2
      go_ret2
      exact ansM_ok ho h1 h2 HF.out hF2
    · have HC := Lib.hid (cat_any w1.drew [(some ⟨b, o, none⟩, cap, l.take f), (some ⟨b, o + (f + 1) * 2, none⟩, cap - (f + 1), l.drop (f + 1))] #[.slice (some ⟨b, o, none⟩) f cap, .slice (some ⟨b, o + (f + 1) * 2, none⟩) (n - (f + 1)) (cap - (f + 1))] 2 L rfl (by simp [HT.out, HD.out]) (by rw [HLL.out, HFF.out]; exact cat2 _ _)
        (by
          intro q hq
          rcases List.mem_cons.1 hq with rfl | hq
          · exact ⟨take_rd HRL.out f, fun e => by cases e⟩
          · obtain rfl := List.mem_singleton.1 hq
            exact ⟨drop_rd HRL.out (f + 1), fun e => by cases e⟩) (by omega) (by rw [HLL.out, HFF.out, List.length_append, HT.out, HD.out]; omega))
      go_region_with (go_at_call 38; refine HC.out.mono ?_; rintro e w2 ⟨Av, cv, rfl, ho, h1, h2, hF2⟩)
      go_wp2
      go_ret2
      exact ansM_ok ho h1 h2 HF.out hF2
end Go.Proofs.Ytppkmfhlmmlckaa.nm
