/-
  Calls that come in; helpers.
-/
import Derived.Test.YtnibbopdjeagoaaFlT
import Derived.Deep.DeepCutAuto
import Derived.Deep.CutBlock
namespace Go.Proofs.Ytnibbopdjeagoaa.fl
set_option maxRecDepth 100000
open Go.RowKit Go.Maps
set_option maxRecDepth 100000

/-- A call of the law's: what it does, its numbers, its bytes. -/
structure AF where
  do_ : Int
  n : Int
  bits : Int
  A : Option Addr
  cap : Nat
  d : List UInt8
structure AFok (w : World) (B : Nat) (x : AF) : Prop where
  n : Big x.n
  bits : Big x.bits
  rd : Rd w B x.A x.d
  none_ : x.A = none → x.cap = 0
  cap : x.d.length ≤ x.cap
  len : x.d.length ≤ 140737488351232
/-- Calls that come in. -/
structure ActsF (w : World) (B : Nat) (A : Option Addr) (l : List AF) : Prop where
  cells : l ≠ [] → ∃ blk off, A = some ⟨blk, off, none⟩ ∧ blk < B ∧ ∀ i x, l[i]? = some x → w.cell? ⟨blk, off + i * 4, none⟩ = some (.int .i64 x.do_) ∧ w.cell? ⟨blk, off + i * 4 + 1, none⟩ = some (.int .i64 x.n) ∧ w.cell? ⟨blk, off + i * 4 + 2, none⟩ = some (.int .i64 x.bits) ∧ w.cell? ⟨blk, off + i * 4 + 3, none⟩ = some (.slice x.A x.d.length x.cap)
  ok : ∀ x ∈ l, AFok w B x
  len : l.length ≤ 9223372036854775807
theorem ActsF.at_ {w w' : World} {B : Nat} {A : Option Addr} {l : List AF} {S : Nat → Prop} (h : ActsF w B A l) {k : Nat} {x : AF} (hx : l[k]? = some x) (hF : Fr S w w') (hB : B ≤ w.heap.size) (hS : ∀ i, i < B → ¬ S i) : ∃ blk off, A = some ⟨blk, off, none⟩ ∧ w'.cell? ⟨blk, off + k * 4, none⟩ = some (.int .i64 x.do_) ∧ w'.cell? ⟨blk, off + k * 4 + 1, none⟩ = some (.int .i64 x.n) ∧ w'.cell? ⟨blk, off + k * 4 + 2, none⟩ = some (.int .i64 x.bits) ∧ w'.cell? ⟨blk, off + k * 4 + 3, none⟩ = some (.slice x.A x.d.length x.cap) := by
  obtain ⟨blk, off, e, hb, hc⟩ := h.cells (by rintro rfl; simp at hx)
  have kk : ∀ o v, w.cell? ⟨blk, o, none⟩ = some v → w'.cell? ⟨blk, o, none⟩ = some v := fun o v hv => (World.cell?_of_block (w := w) (w' := w') (a := ⟨blk, o, none⟩) (hF.block blk (by omega) (hS blk hb))).trans hv
  obtain ⟨c0, c1, c2, c3⟩ := hc k x hx
  exact ⟨blk, off, e, kk _ _ c0, kk _ _ c1, kk _ _ c2, kk _ _ c3⟩
theorem quiet_calm2 {f : FuncId} {args : Array Value} {w : World} {n : Nat} {v : Value} (h : Calls Try.prog f args (w.drewN n) fun e w' => e = .returned v ∧ Calm (w.drewN n) w') :
    Calls Try.prog f args (w.drewN n) fun e w'' => e = .returned v ∧ ∃ m, w'' = w.drewN m :=
  h.mono fun _ _ ⟨he, m, hm⟩ => ⟨he, n + m, by rw [hm, World.drewN_drewN]⟩
theorem bytesV_len {L : List Int} {p : Nat} {n : Int} (h : L.length ≤ 100000000) : (bytesV L p n).1.length ≤ 12500000 := by
  unfold bytesV
  by_cases h1 : n < 0 ∨ p % 8 ≠ 0
  · rw [if_pos h1]; simp
  · rw [if_neg h1]
    by_cases h2 : (((L.length - p) / 8 : Nat) : Int) < n
    · rw [if_pos h2]; simp
    · rw [if_neg h2, packI_length, List.length_take, List.length_drop]
      omega
theorem own_kp {w w' : World} {base : Nat} {v : Value} {l : List UInt8} (h : Own w base v l) (hk : ∀ g, v.ownBlock = some g → w'.heap[g]? = w.heap[g]?) : Own w' base v l := by
  obtain ⟨h1, h2⟩ := h
  refine ⟨h1, ?_⟩
  rcases h2 with h2 | ⟨g, cap, cur, hv, hg, hh, r⟩
  · exact Or.inl h2
  · exact Or.inr ⟨g, cap, cur, hv, hg, (hk g (by rw [hv]; rfl)).trans hh, r⟩

theorem own_cap2 {w : World} {base n cap size : Nat} {t : TypeId} {A : Option Addr} {xs : List Value} (h : w.ownsRow base t size (.slice A n cap) n xs) : (A = none → cap = 0) ∧ n ≤ cap := by
  rcases h.2 with ⟨e, h0⟩ | ⟨g, cap', cur, e, hg, hh, hn, _⟩
  · cases e
    exact ⟨fun _ => rfl, Nat.le_refl _⟩
  · cases e
    exact ⟨fun e => (by cases e), hn⟩
theorem own_capI {w : World} {base cap : Nat} {A : Option Addr} {l : List Int} (h : OwnI w base (.slice A l.length cap) l) : l.length ≤ cap := (own_cap2 h).2
theorem ownI_rdT {w : World} {base cap : Nat} {A : Option Addr} {l : List Int} (h : OwnI w base (.slice A l.length cap) l) : RdT w base w.heap.size A l := fun hne => by
  obtain ⟨g, e, h1, h2, hc⟩ := h.cell hne
  exact ⟨g, 0, e, h1, h2, fun j x hj => by rw [Nat.zero_add]; exact hc j x hj⟩

end Go.Proofs.Ytnibbopdjeagoaa.fl
