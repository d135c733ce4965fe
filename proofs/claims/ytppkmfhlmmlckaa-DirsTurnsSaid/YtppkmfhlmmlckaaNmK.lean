/-
  The document's Parse.
-/
import Derived.Test.YtppkmfhlmmlckaaNmF
import Derived.Test.YtppkmfhlmmlckaaBitsG
import Derived.Laws.IdiomStrings
namespace Go.Proofs.Ytppkmfhlmmlckaa.nm
set_option maxRecDepth 100000
open Go.RowKit Go.Maps
set_option maxRecDepth 100000

/-- A text of bytes. -/
theorem wpList_text {P : Program} {w : World} {ops : Array Oper} {rest : List Oper} {o : Oper} {a : Act} {Q : Exit → Act → World → Prop} (hgd : o.guard = none) (x : Operand) (src dst e : TypeId) (ho : o.op = .convert src dst x)
    (hs : P.underlying src = some (.slice e)) (he : P.underlying e = some (.int .u8)) (hd : P.underlying dst = some .string) (ad : Addr) (n cap : Nat) (l : List UInt8) (hn : l.length = n) (hx : a.eval x = .slice (some ad) n cap)
    (hc : ∀ j (hj : j < l.length), w.cell? (ad.add j) = some (.int .u8 (l[j].toNat : Int)))
    (h : wpList P ops Q rest (a.put o.dst (.string ⟨l.toArray⟩)) w) : wpList P ops Q (o :: rest) a w := by
  subst hn
  refine wpList_plain hgd fun K hK => ?_
  have hr := run_convert_bytes_back (P := P) w src dst e ad cap l hs he hd hc
  unfold Oper.wp
  simp only [execOp, ho, hx, hr, Sem.run_bind, Sem.run_pure, Result.andThen_ok]
  exact hK _ _ h

/-- Entries, as long as there are bytes; of c there are already. -/
def parG : Nat → List UInt8 → Nat → Option (List Nm)
  | _, [], _ => some []
  | 0, _ :: _, _ => none
  | f + 1, x :: r, c => if r.length < x.toNat + 2 ∨ 256 < c then none else (parG f (r.drop (x.toNat + 2)) (c + 1)).map fun t => ((⟨(r.take x.toNat).toArray⟩, (numAt r x.toNat 2 : Int)) : Nm) :: t
theorem parG_end (f c : Nat) : parG f [] c = some [] := by cases f <;> rfl
/-- What is parsed, if it is a directory or not. -/
def parP (b : List UInt8) : Option (List Nm) := parG b.length b 0
/-- How far the loop is. -/
def PaTo (b : List UInt8) (i m : Nat) (out : List Nm) : Prop := ∃ f, (b.drop i).length ≤ f ∧ parP b = (parG f (b.drop i) m).map (out ++ ·)
theorem PaTo.start (b : List UInt8) : PaTo b 0 0 [] := ⟨b.length, by simp, by
  unfold parP
  rw [List.drop_zero]
  cases parG b.length b 0 <;> rfl⟩
theorem PaTo.done {b : List UInt8} {m : Nat} {out : List Nm} (h : PaTo b b.length m out) : parP b = some out := by
  obtain ⟨f, _, h⟩ := h
  rw [h, List.drop_length, parG_end]
  simp
theorem drop_cons {b : List UInt8} {i : Nat} {x : UInt8} (hx : b[i]? = some x) : b.drop i = x :: b.drop (i + 1) := by
  obtain ⟨h1, h2⟩ := List.getElem?_eq_some_iff.1 hx
  rw [List.drop_eq_getElem_cons h1, h2]
theorem PaTo.no {b : List UInt8} {i m : Nat} {out : List Nm} {x : UInt8} (h : PaTo b i m out) (hx : b[i]? = some x) (hn : b.length < i + 1 + x.toNat + 2 ∨ 256 < m) : parP b = none := by
  obtain ⟨f, hf, h⟩ := h
  rw [drop_cons hx] at h hf
  cases f with
  | zero => simp at hf
  | succ f =>
    rw [h, parG, if_pos (by rw [List.length_drop]; rcases hn with hn | hn; exact Or.inl (by omega); exact Or.inr hn)]
    rfl
theorem PaTo.next {b : List UInt8} {i m : Nat} {out : List Nm} {x : UInt8} (h : PaTo b i m out) (hx : b[i]? = some x) (h1 : i + 1 + x.toNat + 2 ≤ b.length) (h2 : m ≤ 256) :
    PaTo b (i + (1 + x.toNat + 2)) (m + 1) (out ++ [(⟨((b.drop (i + 1)).take x.toNat).toArray⟩, (numAt b (i + 1 + x.toNat) 2 : Int))]) := by
  obtain ⟨f, hf, h⟩ := h
  rw [drop_cons hx] at h hf
  cases f with
  | zero => simp at hf
  | succ f =>
    rw [parG, if_neg (by rw [List.length_drop]; omega)] at h
    refine ⟨f, ?_, ?_⟩
    · rw [List.length_cons, List.length_drop] at hf
      rw [List.length_drop]
      omega
    · rw [h, List.drop_drop, show i + 1 + (x.toNat + 2) = i + (1 + x.toNat + 2) by omega]
      have hnum : numAt (b.drop (i + 1)) x.toNat 2 = numAt b (i + 1 + x.toNat) 2 := by
        unfold numAt
        rw [List.drop_drop]
      rw [hnum]
      cases parG f (b.drop (i + (1 + x.toNat + 2))) (m + 1) <;> simp
theorem numAt_lt2 (l : List UInt8) (a : Nat) : numAt l a 2 < 65536 := by
  have h := leNum_lt ((l.drop a).take 2)
  have hl : ((l.drop a).take 2).length ≤ 2 := List.length_take_le _ _
  unfold numAt
  refine Nat.lt_of_lt_of_le h ?_
  exact Nat.pow_le_pow_right (by omega) hl
/-- What Parse answers. -/
def AnsP (w : World) (p : Option (List Nm)) (e : Ending) (w' : World) : Prop :=
  (∃ l, p = some l ∧ RightN l ∧ ∃ A cap, e = .returned (.tuple #[.slice A l.length cap, .int .i64 0]) ∧ OwnN w' w.heap.size (.slice A l.length cap) l ∧ Fr (fun _ => False) w w') ∨ ((∀ l, p = some l → ¬ RightN l) ∧ e = .returned (.tuple #[.slice none 0 0, .int .i64 70]) ∧ Fr (fun _ => False) w w')

theorem newsT (w : World) {g : Nat} {s : ByteArray} {n : Int} (h : w.heap[g]? = some (.cells #[.string s, .int .i64 n] 41 (0, 0))) : ∀ j u, [Value.string s, .int .i64 n][j]? = some u → w.cell? ((⟨g, 0, none⟩ : Addr).add j) = some u := fun j u hu => by
  rw [add_plain, cellAt h, Nat.zero_add, ← Array.getElem?_toList]
  exact hu
theorem wf_snoc {out : List Nm} {s : ByteArray} {n : Int} (h : WfN out) (h1 : s.size ≤ maxLen) (h2 : -9223372036854775808 ≤ n ∧ n ≤ 9223372036854775807) : WfN (out ++ [(s, n)]) := fun x hx => by
  rcases List.mem_append.1 hx with hx | hx
  · exact h x hx
  · obtain rfl := List.mem_singleton.1 hx
    exact ⟨h1, h2⟩
set_option maxHeartbeats 4000000 in
theorem rparse (w : World) (A : Option Addr) (cap : Nat) (b : List UInt8) (hr : Rd w w.heap.size A b) (hcap : b.length ≤ cap) (hb : b.length ≤ 140737488351232) :
    Calls Try.prog 11 #[.slice A b.length cap] w (AnsP w (parP b)) := by
  obtain ⟨n, hn⟩ : ∃ n, n = b.length := ⟨_, rfl⟩
  rw [← hn] at hb hcap ⊢
  have HR := Lib.hid hr
  have HN := Lib.hid hn
  obtain ⟨i0, hi, hz0, hz1, hz2⟩ := info_parts infoN
  have HI := Lib.hid (⟨hi, hz0, hz1, hz2⟩ : _ ∧ _ ∧ _ ∧ _)
  clear hr hn hi hz0 hz1 hz2
  have H0 := Lib.hid (⟨ownN_made w, (Fr.refl (fun _ => False) w).alloc _⟩ : OwnN (w.alloc (.cells #[] 41)) w.heap.size (.slice (some ⟨w.heap.size, 0, none⟩) 0 0) [] ∧ Fr (fun _ => False) w (w.alloc (.cells #[] 41)))
  go_enter Try.func11, Try.ntmps11
  go_wp2_with fail
  go_loopw [4, 5] (fun v4 v5 wr => ∃ (i m : Nat) (out : List Nm) (p : Option Addr) (c : Nat), i ≤ n ∧ m ≤ 257 ∧ v5 = .int .i64 i ∧ v4 = .slice p m c ∧ Hid (m = out.length ∧ OwnN wr w.heap.size (.slice p m c) out ∧ Fr (fun _ => False) w wr ∧ PaTo b i m out ∧ WfN out)) (fun _ v _ => n - (intOf v).toNat)
  case atStart => exact ⟨0, 0, [], _, _, Nat.zero_le _, by omega, rfl, rfl, (show _ ∧ _ from ⟨rfl, H0.out.1, H0.out.2, PaTo.start b, fun x hx => by cases hx⟩)⟩
  case round =>
    obtain ⟨i, m, out, p, c, hi, hm, rfl, rfl, HK⟩ := hrel
    clear H0
    by_cases hlt : i < n
    · obtain ⟨x, hx⟩ : ∃ x, b[i]? = some x := ⟨_, List.getElem?_eq_getElem (by have := HN.out; omega)⟩
      obtain ⟨blk, off, rfl, hblk, hc⟩ := HR.out (by rintro rfl; simp at hx)
      have c0 : wr.cell? ⟨blk, off + i, none⟩ = some (.int .u8 (x.toNat : Int)) := (World.cell?_of_block (w := w) (w' := wr) (a := ⟨blk, off + i, none⟩) (HK.out.2.2.1.block blk hblk id)).trans (hc i x hx)
      have hx256 := x.toNat_lt
      obtain ⟨k, hk⟩ : ∃ k : Nat, k = x.toNat := ⟨_, rfl⟩
      rw [← hk] at c0 hx256
      have hk3 : k < 256 := hx256
      have HPN := Lib.hid (fun h => HK.out.2.2.2.1.no hx h)
      have HPX := Lib.hid (fun h1 h2 => HK.out.2.2.2.1.next hx h1 h2)
      rw [← hk, ← HN.out] at HPN HPX
      clear hx256 hx hk
      have h3 : n < i + 1 + k + 2 ∨ (i + 1 + k + 2 ≤ n ∧ 256 < m) ∨ (i + 1 + k + 2 ≤ n ∧ m ≤ 256) := by omega
      rcases h3 with h3 | ⟨h3, h4⟩ | ⟨h3, h4⟩
      · have HE := Lib.hid (HPN.out (Or.inl h3))
        have h3i : (n : Int) < (i : Int) + 1 + k + 2 := by omega
        clear HPX HPN
        go_wp2_with fail
        go_ret2
        exact Or.inr ⟨fun l hl => (by rw [HE.out] at hl; cases hl), rfl, HK.out.2.2.1⟩
      · have HE := Lib.hid (HPN.out (Or.inr h4))
        have h3i : (i : Int) + 1 + k + 2 ≤ (n : Int) := by omega
        clear HPX HPN
        go_wp2_with fail
        go_ret2
        exact Or.inr ⟨fun l hl => (by rw [HE.out] at hl; cases hl), rfl, HK.out.2.2.1⟩
      · have HE := Lib.hid (HPX.out h3 h4)
        have h3i : (i : Int) + 1 + k + 2 ≤ (n : Int) := by omega
        have HGT := Lib.hid (rget_ok wr (some ⟨blk, off, none⟩) n cap w.heap.size (i + 1 + k) 2 b (fun _ => ⟨blk, off, rfl, hblk, fun j y hj => (World.cell?_of_block (w := w) (w' := wr) (a := ⟨blk, off + j, none⟩) (HK.out.2.2.1.block blk hblk id)).trans (hc j y hj)⟩) HN.out.symm hb (by omega) (by omega) (by omega))
        have HCB : Hid (∀ j (hj : j < ((b.drop (i + 1)).take k).length), wr.cell? ((⟨blk, off + (i + 1), none⟩ : Addr).add j) = some (.int .u8 (((b.drop (i + 1)).take k)[j].toNat : Int))) := Lib.hid fun j hj => by
          rw [add_plain]
          have hj2 : j < k := by rw [List.length_take] at hj; omega
          have hg : b[i + 1 + j]? = some ((b.drop (i + 1)).take k)[j] := by
            rw [← List.getElem?_eq_getElem hj, List.getElem?_take_of_lt hj2, List.getElem?_drop]
          have := (World.cell?_of_block (w := w) (w' := wr) (a := ⟨blk, off + (i + 1 + j), none⟩) (HK.out.2.2.1.block blk hblk id)).trans (hc _ _ hg)
          rw [show off + (i + 1) + j = off + (i + 1 + j) by omega]
          exact this
        have HLT := Lib.hid (show ((b.drop (i + 1)).take k).length = k by rw [List.length_take, List.length_drop]; have := HN.out; omega)
        obtain ⟨num, hnum⟩ : ∃ num, num = numAt b (i + 1 + k) 2 := ⟨_, rfl⟩
        obtain ⟨tx, htx⟩ : ∃ tx, tx = (b.drop (i + 1)).take k := ⟨_, rfl⟩
        rw [← hnum] at HGT HE
        rw [← htx] at HE
        have HTX : Hid (∀ j (hj : j < tx.length), wr.cell? ((⟨blk, off + (i + 1), none⟩ : Addr).add j) = some (.int .u8 (tx[j].toNat : Int))) := by subst htx; exact HCB
        have HTL : Hid (tx.length = k) := by subst htx; exact HLT
        have HNB := Lib.hid (show num < 65536 by rw [hnum]; exact numAt_lt2 _ _)
        have hA0 : (0 : Int) ≤ (i : Int) + 1 := by omega
        have hA1 : (i : Int) + 1 ≤ (i : Int) + 1 + k := by omega
        have hA2 : (i : Int) + 1 + k ≤ (cap : Int) := by omega
        clear HPX HPN HCB HLT hnum htx hc
        go_wp2_with fail
        rw [show (i : Int) + 1 + (k : Int) = ((i + 1 + k : Nat) : Int) by omega]
        refine HGT.out.mono ?_
        rintro e w' ⟨rfl, rfl⟩
        rw [show ((i + 1 + k : Nat) : Int) = (i : Int) + 1 + (k : Int) by omega]
        go_wp2_with fail
        have HCV : Hid ((convert 22 9 (.slice (some ⟨blk, off + (i + 1), none⟩) k (cap - (i + 1)))).run Try.prog wr = .ok (.string ⟨tx.toArray⟩) wr) := Lib.hid (by
          have h := run_convert_bytes_back (P := Try.prog) wr 22 9 5 ⟨blk, off + (i + 1), none⟩ (cap - (i + 1)) tx Try.underlying22 Try.underlying5 Try.underlying9 HTX.out
          rwa [HTL.out] at h)
        have HOW : Hid (wr.ownsRow w.heap.size 41 2 (.slice p m c) m (ncs out)) := Lib.hid (by
          have h := HK.out.2.1
          unfold OwnN at h
          rwa [← HK.out.1] at h)
        have hFx := (Fr.refl (fun _ => False) wr).alloc (.cells #[.string ⟨tx.toArray⟩, .int .i64 (num : Int)] 41)
        have HFX := Lib.hid hFx
        rw [HCV.out]
        clear hFx HGT HTX
        go_wp2_with (at_builtin; refine wpList_append_own _ rfl (.tmp 41) (.tmp 53) 23 rfl w.heap.size 41 i0 zeroN 2 24 Try.underlying23 HI.out.1 HI.out.2.1 HI.out.2.2.1 HI.out.2.2.2 rfl (by omega) _ m (ncs out) rfl (World.ownsRow.alloc HOW.out _) ⟨wr.heap.size, 0, none⟩ 1 1 [.string ⟨tx.toArray⟩, .int .i64 (num : Int)] rfl rfl (newsT _ (heap_alloc_new _ _)) ?c2 ?c3 ?c4 ?c5 ?c6)
        case c2 =>
          intro u hu
          simp at hu
          rcases hu with rfl | rfl <;> rfl
        case c3 => unfold maxLen; omega
        case c4 => omega
        case c5 => exact (HK.out.2.2.1.trans HFX.out (fun _ _ e => e)).size
        case c6 =>
          intro v' w9 hown hgrow hnil
          obtain ⟨p', c', e', ho'⟩ := OwnN.shape (l := out ++ [((⟨tx.toArray⟩, (num : Int)) : Nm)]) (n := m + 1) (by rw [List.length_append, ← HK.out.1]; rfl) (by rw [ncs_append]; rfl) hown
          rw [show (out ++ [((⟨tx.toArray⟩, (num : Int)) : Nm)]).length = m + 1 by rw [List.length_append, ← HK.out.1]; rfl] at e' ho'
          subst e'
          have H9 := Lib.hid (⟨by rw [List.length_append, ← HK.out.1]; rfl, ho', (HK.out.2.2.1.trans HFX.out (fun _ _ e => e)).grown hgrow (fun q e => own_ge HOW.out e), HE.out, wf_snoc HK.out.2.2.2.2 (by have := HTL.out; show tx.length ≤ _; unfold maxLen; omega) (by have := HNB.out; omega)⟩ : m + 1 = (out ++ [((⟨tx.toArray⟩, (num : Int)) : Nm)]).length ∧ OwnN w9 w.heap.size (.slice p' (m + 1) c') (out ++ [((⟨tx.toArray⟩, (num : Int)) : Nm)]) ∧ Fr (fun _ => False) w w9 ∧ PaTo b (i + (1 + k + 2)) (m + 1) (out ++ [((⟨tx.toArray⟩, (num : Int)) : Nm)]) ∧ WfN (out ++ [((⟨tx.toArray⟩, (num : Int)) : Nm)]))
          clear hown hgrow hnil ho'
          go_wp2_with fail
          go_roundw
          case rel => exact ⟨i + (1 + k + 2), m + 1, _, p', c', by omega, by omega, by go_num, rfl, (show _ ∧ _ from H9.out)⟩
          case measure => simp [intOf]; omega
    · obtain rfl : i = n := by omega
      have HP := Lib.hid (show parP b = some out from PaTo.done (m := m) (by rw [← HN.out]; exact HK.out.2.2.2.1))
      have HOW := Lib.hid HK.out.2.1
      have hml : m = out.length := HK.out.1
      have HRI := Lib.hid (rright wr p c out (by have h := HK.out.2.1; rw [hml] at h; exact (OwnN.rd h HK.out.2.2.2.2).more (Nat.le_refl _)) (by omega))
      rw [← hml] at HRI
      have HML := Lib.hid hml
      clear hml hlt
      by_cases hri : RightN out
      · rw [decide_eq_true hri] at HRI
        have HRT := Lib.hid hri
        clear hri
        go_wp2_with fail
        refine HRI.out.mono ?_
        rintro e w2 ⟨rfl, hC⟩
        have HF2 := Lib.hid hC.fr
        clear hC HRI
        go_wp2_with fail
        go_ret2
        have ho := HOW.out.kept HF2.out
        rw [HML.out] at ho
        exact Or.inl ⟨out, HP.out, HRT.out, p, c, by rw [HML.out]; rfl, ho, HK.out.2.2.1.trans HF2.out (fun _ _ e => e)⟩
      · rw [decide_eq_false hri] at HRI
        have HRT := Lib.hid hri
        clear hri
        go_wp2_with fail
        refine HRI.out.mono ?_
        rintro e w2 ⟨rfl, hC⟩
        have HF2 := Lib.hid hC.fr
        clear hC HRI
        go_wp2_with fail
        go_ret2
        exact Or.inr ⟨fun l hl => (by rw [HP.out] at hl; cases hl; exact HRT.out), rfl, HK.out.2.2.1.trans HF2.out (fun _ _ e => e)⟩
end Go.Proofs.Ytppkmfhlmmlckaa.nm
