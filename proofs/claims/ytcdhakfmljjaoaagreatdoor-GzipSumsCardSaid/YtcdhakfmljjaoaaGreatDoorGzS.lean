/-
  Bytes of the call's own, told by their block; what is appended; one of them set.
-/
import Derived.Test.YtcdhakfmljjaoaaGreatDoorGzR
namespace Go.Proofs.YtcdhakfmljjaoaaGreatDoor.gz
set_option maxRecDepth 100000
open Go.RowKit Go.Maps Go.Proofs.YtcdhakfmljjaoaaGreatDoor.fl Go.Proofs.YtcdhakfmljjaoaaGreatDoor.cd Go.Proofs.YtcdhakfmljjaoaaGreatDoor.ft
set_option maxRecDepth 100000

/-- Bytes that a slice holds, wherever. -/
def SrcB (w : World) (A : Option Addr) (c : Nat) (L : By) : Prop := (A = none → L = [] ∧ c = 0) ∧ ∀ ad, A = some ad → ∀ j u, (bs L)[j]? = some u → w.cell? (ad.add j) = some u
theorem srcB_rd {w : World} {B c : Nat} {A : Option Addr} {L : By} (h : Rd w B A L) (hA : A = none → c = 0) : SrcB w A c L := by
  refine ⟨fun e => ⟨?_, hA e⟩, fun ad e => by subst e; exact h.src⟩
  apply Decidable.byContradiction
  intro hne
  obtain ⟨_, _, e2, _⟩ := h hne
  rw [e] at e2
  cases e2
theorem own_none2 {w : World} {base n cap : Nat} {A : Option Addr} {l : By} (h : Own w base (.slice A n cap) l) (hA : A = none) : cap = 0 := own_none h hA
theorem srcB_own {w : World} {B cap : Nat} {A : Option Addr} {L : By} (h : Own w B (.slice A L.length cap) L) : SrcB w A cap L := srcB_rd h.rd (own_none2 h)
theorem srcB_block {w : World} {g c : Nat} {t : TypeId} {L : By} (h : w.heap[g]? = some (.cells (bs L).toArray t (0, 0))) : SrcB w (some ⟨g, 0, none⟩) c L := ⟨(fun e => by cases e), fun ad e j u hu => by
  cases e
  rw [add_plain, cellAt h, List.getElem?_toArray, Nat.zero_add]
  exact hu⟩
/-- Bytes of the call's own, in a block. -/
structure Out (w0 w : World) (g n c : Nat) (L : By) : Prop where
  own : Own w w0.heap.size (.slice (some ⟨g, 0, none⟩) L.length c) L
  len : n = L.length
  fr : Fr (fun _ => False) w0 w
theorem Out.still {w0 w w' : World} {g n c : Nat} {L : By} (h : Out w0 w g n c L) (hF : Fr (fun _ => False) w w') : Out w0 w' g n c L := ⟨h.own.kept hF, h.len, h.fr.trans hF (fun _ _ e => e)⟩
theorem out_ge {w0 w : World} {n : Nat} {v : Value} {xs : List Value} {q : Nat} (h : w.ownsRow w0.heap.size 5 1 v n xs) (e : v.ownBlock = some q) : False ∨ w0.heap.size ≤ q := by
  rcases h.2 with ⟨rfl, _⟩ | ⟨g, cap, cur, rfl, hg, _⟩
  · cases e
  · cases e
    exact Or.inr hg
theorem out_of {w0 w' : World} {v' : Value} {n : Nat} {L : By} {xs : List Value} (hn : n = L.length) (hx : xs = bs L) (hnn : v' ≠ .slice none 0 0) (h : w'.ownsRow w0.heap.size 5 1 v' n xs) (hF : Fr (fun _ => False) w0 w') : ∃ g' c', v' = .slice (some ⟨g', 0, none⟩) n c' ∧ Out w0 w' g' n c' L := by
  subst hn
  subst hx
  rcases id h.2 with ⟨rfl, h0⟩ | ⟨g, cap, cur, rfl, hg, hh, r⟩
  · exact absurd rfl hnn
  · exact ⟨g, cap, rfl, h, rfl, hF⟩
section
variable {w w0 : World} {g n c : Nat} {L : By} {ops : Array Oper} {rest : List Oper} {o : Oper} {a : Act} {Q : Exit → Act → World → Prop}
theorem wpList_appB (hgd : o.guard = none) (s x : Operand) (ho : o.op = .call { callee := .builtin .append, args := #[s, x], argTypes := #[22, 22] }) (hs : a.eval s = .slice (some ⟨g, 0, none⟩) n c) (hO : Out w0 w g n c L)
    (sA : Option Addr) (m cc : Nat) (L2 : By) (hm : m = L2.length) (hx : a.eval x = .slice sA m cc) (hsrc : SrcB w sA cc L2) (hb : n + m ≤ 100000000)
    (h : ∀ g' n' c' w', n' = n + m → Out w0 w' g' n' c' (L ++ L2) → wpList Tryz.prog ops Q rest (a.put o.dst (.slice (some ⟨g', 0, none⟩) n' c')) w') : wpList Tryz.prog ops Q (o :: rest) a w := by
  obtain ⟨i0, hi, hz0, hz1, hz2⟩ := info_parts infoB
  have hown := hO.own
  unfold Own at hown
  rw [← hO.len] at hown
  cases sA with
  | none =>
    obtain ⟨rfl, rfl⟩ := hsrc.1 rfl
    obtain rfl : m = 0 := hm
    refine wpList_append_own_none hgd s x 22 ho w0.heap.size 5 i0 1 Tryz.underlying22 hi _ n (bs L) hs hown hx ?_
    exact h g n c w rfl (by rw [List.append_nil]; exact hO)
  | some ad =>
    refine wpList_append_own w hgd s x 22 ho w0.heap.size 5 i0 (.int .u8 0) 1 1 Tryz.underlying22 hi hz0 hz1 hz2 rfl (by omega) _ n (bs L) hs hown ad m cc (bs L2) hx (by rw [bs_length, hm, Nat.mul_one]) (hsrc.2 ad rfl) (bs_one L2) (by unfold maxLen; omega) (by omega) hO.fr.size ?_
    intro v' w' h1 h2 h3
    obtain ⟨g', c', rfl, hO'⟩ := out_of (L := L ++ L2) (by rw [List.length_append, ← hm, ← hO.len]) (by rw [bs_append]) (fun e => by cases (h3.1 e).1) h1 (hO.fr.grown h2 (fun q e => out_ge hown e))
    exact h g' (n + m) c' w' rfl hO'
theorem wpList_appS (hgd : o.guard = none) (s x : Operand) (ho : o.op = .call { callee := .builtin .append, args := #[s, x], argTypes := #[22, 9] }) (hs : a.eval s = .slice (some ⟨g, 0, none⟩) n c) (hO : Out w0 w g n c L)
    (t : ByteArray) (hx : a.eval x = .string t) (hb : n + t.size ≤ 100000000)
    (h : ∀ g' n' c' w', n' = n + t.size → Out w0 w' g' n' c' (L ++ t.data.toList) → wpList Tryz.prog ops Q rest (a.put o.dst (.slice (some ⟨g', 0, none⟩) n' c')) w') : wpList Tryz.prog ops Q (o :: rest) a w := by
  obtain ⟨i0, hi, hz0, hz1, hz2⟩ := info_parts infoB
  have hown := hO.own
  unfold Own at hown
  rw [← hO.len] at hown
  refine Lib.wpList_append_own_string w hgd s x 22 9 ho w0.heap.size 5 i0 Tryz.underlying22 Tryz.underlying9 hi hz0 hz1 hz2 _ n (bs L) hs hown t hx (by unfold maxLen; omega) (by omega) hO.fr.size ?_
  intro v' w' h1 h2 h3
  obtain ⟨g', c', rfl, hO'⟩ := out_of (L := L ++ t.data.toList) (by rw [List.length_append, ← hO.len, Array.length_toList]; rfl) (by rw [bs_append]; rfl) (fun e => by cases (h3.1 e).1) h1 (hO.fr.grown h2 (fun q e => out_ge hown e))
  exact h g' (n + t.size) c' w' rfl hO'
end
/-- What stands ahead in a frame, with the flags. -/
def pre (f : Nat) (t : By) : By := [0x1f, 0x8b, 8, UInt8.ofNat f, 0, 0, 0, 0, 0, 0] ++ t
theorem pre_set (f f' : Nat) (t : By) : (pre f t).set 3 (UInt8.ofNat f') = pre f' t := rfl
theorem pre_len (f : Nat) (t : By) : (pre f t).length = 10 + t.length := by
  unfold pre
  rw [List.length_append]
  rfl
theorem u8n {f : Nat} (h : f < 256) : (UInt8.ofNat f).toNat = f := by rw [UInt8.toNat_ofNat']; omega
theorem Out.bump {w0 w : World} {g n c f : Nat} {t : By} (h : Out w0 w g n c (pre f t)) (hf : f < 256) : w.cell? ⟨g, 3, none⟩ = some (.int .u8 (f : Int)) ∧ w.frozen? ⟨g, 3, none⟩ = false ∧ ∀ f' : Nat, f' < 256 → Out w0 (w.setCell ⟨g, 3, none⟩ (.int .u8 (f' : Int))) g n c (pre f' t) := by
  obtain ⟨g', e, hb, hlt, hc, hz, hs⟩ := h.own.at_ (k := 3) (by rw [pre_len]; omega)
  cases e
  refine ⟨?_, hz, fun f' hf' => ?_⟩
  · rw [hc]
    show some (Value.int .u8 ((UInt8.ofNat f).toNat : Int)) = _
    rw [u8n hf]
  · have h2 := hs (UInt8.ofNat f')
    rw [u8n hf', pre_set] at h2
    exact ⟨h2, by rw [h.len, pre_len, pre_len], h.fr.setCell (Or.inr hb) _⟩
def csum (b : By) : Nat := (crcMore 0#32 b).toNat
theorem csum_lt (b : By) : csum b < 4294967296 := (crcMore 0#32 b).isLt
end Go.Proofs.YtcdhakfmljjaoaaGreatDoor.gz
