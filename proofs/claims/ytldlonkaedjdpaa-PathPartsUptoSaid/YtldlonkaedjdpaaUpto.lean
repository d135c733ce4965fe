/-
  For the rows with a bound: what it gives for a slice of bytes or of numbers.
-/
import Derived.Test.YtldlonkaedjdpaaRows
import Derived.Test.YtldlonkaedjdpaaBy
import Derived.Deep.CondSized
namespace Go.Proofs.Ytldlonkaedjdpaa
set_option maxRecDepth 100000
open Go.RowKit Go.Maps Go.ChangeShapes Go.WideShapes Go.Deep

theorem bulk_one {H : Type} (d : DataW H) : 1 ≤ Rows.uptoBulk d := by
  cases d with
  | lit l => cases l <;> simp [Rows.uptoBulk]
  | nil => simp [Rows.uptoBulk]
  | ptr d => simp [Rows.uptoBulk]
  | slice elems spare => simp [Rows.uptoBulk]
  | agg parts => simp [Rows.uptoBulk]
  | iface t d => simp [Rows.uptoBulk]
  | map entries => simp [Rows.uptoBulk]
  | held h => simp [Rows.uptoBulk]
theorem bulk_len {H : Type} (l : List (DataW H)) : l.length ≤ Rows.uptoBulkAll l := by
  induction l with
  | nil => simp
  | cons x r ih => have := bulk_one x; simp only [Rows.uptoBulkAll, List.length_cons]; omega
theorem bulk_part {H : Type} {d : DataW H} {l : List (DataW H)} (h : d ∈ l) : Rows.uptoBulk d ≤ Rows.uptoBulkAll l := by
  induction l with
  | nil => cases h
  | cons x r ih =>
    simp only [Rows.uptoBulkAll]
    rcases List.mem_cons.1 h with e | e
    · subst e; omega
    · have := ih e; omega
/-- A slice among the arguments has so many places at the most. -/
theorem bulk_slice {H : Type} {ds : List (DataW H)} (hk : Rows.uptoSmall H ds = true) {el sp : List (DataW H)} (h : DataW.slice el sp ∈ ds) : el.length + sp.length ≤ 1048576 := by
  have h1 : Rows.uptoBulkAll ds ≤ 1048576 := of_decide_eq_true hk
  have h2 := bulk_part h
  have h3 := bulk_len el
  have h4 := bulk_len sp
  simp only [Rows.uptoBulk] at h2
  omega
/-- A string among the arguments has so many letters at the most. -/
theorem bulk_string {H : Type} {ds : List (DataW H)} (hk : Rows.uptoSmall H ds = true) {bs : List UInt8} (h : DataW.lit (.string bs) ∈ ds) : bs.length ≤ 1048576 := by
  have h1 : Rows.uptoBulkAll ds ≤ 1048576 := of_decide_eq_true hk
  have h2 := bulk_part h
  simp only [Rows.uptoBulk] at h2
  omega

section
variable {H : Type} {enc : TypeId × Value → H} {w : World} {base : Nat} {spare : Nat → Bool} {held : Bool}
theorem bytes_openN {N : Nat} {v : Value} {d : DataW H} {ps : List MemPlace} (hs : ∀ b, spare b = true) (hsz : ∀ el sp, d = .slice el sp → el.length + sp.length ≤ N) {base2 : Nat} (hok : Value.okWide Try.prog w .any base2 51 v) (h : DataW.Trod enc Try.prog w base spare held 51 v d ps) :
    ∃ (A : Option Addr) (cap : Nat) (l : List UInt8), v = .slice A l.length cap ∧ Rd w w.heap.size A l ∧ (A = none → cap = 0) ∧ l.length ≤ cap ∧ cap ≤ N := by
  obtain ⟨a0, len, cap, rfl⟩ := okWide_slice Try.underlying51 hok
  obtain ⟨fuel, hf⟩ := h
  have hf' : DataW.trod enc Try.prog w base spare held fuel 51 [.slice a0 len cap] = some (d, ps) := hf
  rcases open_ints Try.underlying51 Try.underlying5 cellsU hf' with ⟨hc, _⟩ | ⟨ad, ln, cp, zs, hc, _, hl, hm, hz, hx, hcell, hwf⟩
  · simp only [List.cons.injEq, Value.slice.injEq, and_true] at hc
    obtain ⟨rfl, rfl, rfl⟩ := hc
    exact ⟨none, 0, [], rfl, Rd.nil _ _ _, fun _ => rfl, Nat.le_refl _, Nat.zero_le _⟩
  · simp only [List.cons.injEq, Value.slice.injEq, and_true] at hc
    obtain ⟨rfl, rfl, rfl⟩ := hc
    rw [if_pos (hs _)] at hz
    have hreach := hsz _ _ (Prod.mk.inj hx).1
    simp only [lits, List.length_map, List.length_take, List.length_drop] at hreach
    have hlen : ((zs.take len).map fun z => UInt8.ofNat z.toNat).length = len := by rw [List.length_map, List.length_take]; omega
    refine ⟨some ad, cap, (zs.take len).map fun z => UInt8.ofNat z.toNat, by rw [hlen], fun hne => ?_, (fun e => by cases e), by rw [hlen]; exact hl, by omega⟩
    have h0 : 0 < len := by
      rcases Nat.eq_zero_or_pos len with e | e
      · exact absurd (List.eq_nil_of_length_eq_zero (hlen.trans e)) hne
      · exact e
    obtain ⟨e1, e2⟩ := addr_of_cell (hcell 0 (by omega))
    refine ⟨ad.block, ad.off, by rw [← e1], e2, fun j x hj => ?_⟩
    have hj' : j < len := by
      have := (List.getElem?_eq_some_iff.1 hj).1
      omega
    rw [List.getElem?_map, List.getElem?_take_of_lt hj'] at hj
    obtain ⟨z, hz1, rfl⟩ := Option.map_eq_some_iff.1 hj
    have h1 := cell_add e1 (hcell j (by omega))
    rw [List.getD_eq_getElem?_getD, hz1] at h1
    have hw := hwf z (List.mem_of_getElem? hz1)
    have hb : 0 ≤ z ∧ z ≤ 255 := by simpa using bounds_u8 hw
    rw [h1]
    have hn : ((UInt8.ofNat z.toNat).toNat : Int) = z := by
      rw [UInt8.toNat_ofNat_of_lt' (by have := hb.2; show z.toNat < 256; omega)]
      omega
    rw [hn]
    rfl
end
end Go.Proofs.Ytldlonkaedjdpaa
