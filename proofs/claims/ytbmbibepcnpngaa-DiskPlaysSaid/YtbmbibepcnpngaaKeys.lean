/-
  slices.Sorted(maps.Keys(turns)).
-/
import Derived.Test.YtbmbibepcnpngaaMap
import Derived.Test.YtbmbibepcnpngaaShelf
namespace Go.Proofs.Ytbmbibepcnpngaa
open Go.RowKit Go.Maps Go.Sort Go.Shelf

/-- The sectors that have a turn, rising. -/
structure Rising (T : Int → Int) (L : List Int) : Prop where
  sorted : L.Pairwise (· < ·)
  mem : ∀ x, x ∈ L ↔ (I64 x ∧ 0 < T x)

theorem sortsA (m : Nat) : AnyZI.SortsIn Try.prog Try.sortedA_ren Fence.wide m :=
  ⟨fun blk off cap ss W hH hblk hsz => callsIn_wide.2 (AnyM.slices_Sort_int Try.sortA blk off cap ss W hH hblk hsz),
   fun p cap W => callsIn_wide.2 (AnyM.slices_Sort_int_none Try.sortA p cap W)⟩

theorem keys_call (w : World) (b : Nat) : Calls Try.prog 48 #[.map (some b)] w fun e w' => e = .returned (.func (.func 55) #[] #[.pointer (some ⟨w.heap.size, 0, none⟩)]) ∧ w' = w.alloc (.cells #[.map (some b)] 63) :=
  (callsIn_wide (n := 5)).1 (AnyZI.keys_in Try.keysA Fence.wide 5 trivial rfl (some b) w)

theorem rising_of {w : World} {b n : Nat} {D : DU} {T : Int → Int} {c : Nat} (hown : w.ownsMap Try.prog 3 (plainElem Try.prog 3) b n D) (hD : TurnD D T c) {ss : List Int} (hp : ss.Perm (intKeys D)) : Rising T (ss.mergeSort leI) ∧ ss.length = c := by
  obtain ⟨es, rfl, hpw, _⟩ := hown.entries keyedInt
  obtain ⟨es', hD', hko⟩ := hown.keysOf
  obtain rfl : es = es' := by simpa using hD'
  have hki : ∀ p ∈ es, ∃ x, p.1 = .int .i64 x ∧ (Lit.int .i64 x).wf = true := fun p hp => by
    obtain ⟨v, hv⟩ := hko p hp
    obtain ⟨x, _, hx, hw⟩ := Maps.keyOf_i64 Try.underlying3 hv
    exact ⟨x, hx, hw⟩
  have hnd : (intKeys (.map es : DU)).Nodup := by
    show (es.map fun p => _root_.Go.intOf p.1).Nodup
    refine List.pairwise_map.2 (hpw.imp_of_mem fun {p q} hp' hq' hne e => hne ?_)
    obtain ⟨a, ha, _⟩ := hki p hp'
    obtain ⟨b, hb, _⟩ := hki q hq'
    rw [ha, hb] at e ⊢
    exact congrArg _ e
  have hmem : ∀ x, x ∈ intKeys (.map es : DU) ↔ (I64 x ∧ 0 < T x) := fun x => by
    show (x ∈ es.map fun p => _root_.Go.intOf p.1) ↔ _
    rw [List.mem_map]
    constructor
    · rintro ⟨p, hp', rfl⟩
      obtain ⟨a, ha, hw⟩ := hki p hp'
      have hi := I64.of_wf hw
      have hh := hD.has a hi
      rw [ha]
      refine ⟨hi, of_decide_eq_true (hh.symm.trans ?_)⟩
      rw [has_eq, List.any_eq_true]
      exact ⟨p, hp', by rw [ha]; simp [Lit.sameKey]⟩
    · rintro ⟨hi, h0⟩
      have hh := hD.has x hi
      rw [decide_eq_true h0, has_eq, List.any_eq_true] at hh
      obtain ⟨p, hp', hs⟩ := hh
      obtain ⟨a, ha, _⟩ := hki p hp'
      rw [ha] at hs
      exact ⟨p, hp', by rw [ha]; simpa [Lit.sameKey, _root_.Go.intOf] using hs⟩
  have tr : ∀ a b c : Int, leI a b = true → leI b c = true → leI a c = true := fun a b c h1 h2 => by simp only [leI, decide_eq_true_eq] at *; omega
  have to : ∀ a b : Int, (leI a b || leI b a) = true := fun a b => by simp only [leI, Bool.or_eq_true, decide_eq_true_eq]; omega
  have hpm := (List.mergeSort_perm ss leI).trans hp
  refine ⟨⟨?_, fun x => (hpm.mem_iff).trans (hmem x)⟩, ?_⟩
  · have h1 := List.pairwise_mergeSort tr to ss
    have h2 : (ss.mergeSort leI).Nodup := hpm.nodup_iff.2 hnd
    refine (h1.and h2).imp fun {a b} h => ?_
    have h3 := h.1
    simp only [leI, decide_eq_true_eq] at h3
    have h4 : a ≠ b := h.2
    omega
  · rw [hp.length_eq, ← hD.size]
    show (es.map fun p => _root_.Go.intOf p.1).length = _
    rw [List.length_map]
    rfl

/-- What slices.Sorted hands back where no sector has a turn. -/
def SortedNone (w : World) (T : Int → Int) (e : Ending) (w' : World) : Prop :=
  e = .returned (.slice none 0 0) ∧ Rising T [] ∧ Below w.heap.size w w'

/-- .. where some have. -/
def SortedSome (w : World) (T : Int → Int) (c : Nat) (e : Ending) (w' : World) : Prop :=
  ∃ g cap L, e = .returned (.slice (some ⟨g, 0, none⟩) c cap) ∧ Rising T L ∧ L.length = c ∧ w.heap.size ≤ g ∧ g < w'.heap.size ∧ (∀ i x, L[i]? = some x → w'.cell? ⟨g, i, none⟩ = some (.int .i64 x)) ∧ Below w.heap.size w w'

set_option maxHeartbeats 1000000 in
theorem sorted_call (w : World) {b n : Nat} {T : Int → Int} {c : Nat} (h : TurnMap w b n T c) (hc : c ≤ 1000000000) :
    Calls Try.prog 47 #[.func (.func 55) #[] #[.pointer (some ⟨w.heap.size, 0, none⟩)]] (w.alloc (.cells #[.map (some b)] 63)) fun e w' => ∃ v L, e = .returned v ∧ Rising T L ∧ L.length = c ∧
      w'.ownsRow (w.alloc (.cells #[.map (some b)] 63)).heap.size 3 1 v L.length (L.map (Value.int .i64)) ∧ (v = .slice none 0 0 ↔ L = []) ∧ Below (w.alloc (.cells #[.map (some b)] 63)).heap.size (w.alloc (.cells #[.map (some b)] 63)) w' := by
  obtain ⟨D, hown, hD⟩ := h
  have hown1 := hown.alloc (.cells #[.map (some b)] 63)
  have hm1 : (w.alloc (.cells #[.map (some b)] 63)).cell? ⟨w.heap.size, 0, none⟩ = some (.map (some b)) := by
    rw [cellAt (heap_alloc_new w (.cells #[.map (some b)] 63))]
    rfl
  have hseq : SeqGives Fence.wide 2 Try.prog 55 #[.pointer (some ⟨w.heap.size, 0, none⟩)] encZ (fun ss => ss.Perm (intKeys D)) (Maps.size D) (w.alloc (.cells #[.map (some b)] 63)) :=
    AnyZI.keys_gives (ρ := Try.keysA_ren) { Try.keysA with } Fence.wide _ trivial rfl (by omega) w.heap.size b n D _ (by simp) hm1 hown1
  have hsz := hD.size
  have cS := AnyZI.sorted_in Try.sortedA Fence.wide 5 trivial trivial trivial trivial rfl (by omega) (sortsA _) (enters_of Try.func54 (by kernel_rfl) rfl) 55 #[.pointer (some ⟨w.heap.size, 0, none⟩)] trivial (enters_of Try.func55 (by kernel_rfl) rfl) _ _ (by rw [hsz]; unfold maxLen; omega) (by rw [hsz]; omega) _ hseq
  change CallsIn _ _ Try.prog 47 _ _ _ at cS
  refine ((callsIn_wide (n := 5)).1 cS).mono ?_
  rintro e w' ⟨v, ss, rfl, hS, hrow, hnil, hb⟩
  obtain ⟨hr, hl⟩ := rising_of hown hD hS
  refine ⟨v, _, rfl, hr, by rw [List.length_mergeSort, hl], by rw [List.length_mergeSort]; exact hrow, ?_, hb⟩
  rw [hnil, ← List.length_eq_zero_iff, ← List.length_eq_zero_iff, List.length_mergeSort]

theorem sorted_none (w : World) {b n : Nat} {T : Int → Int} (h : TurnMap w b n T 0) :
    Calls Try.prog 47 #[.func (.func 55) #[] #[.pointer (some ⟨w.heap.size, 0, none⟩)]] (w.alloc (.cells #[.map (some b)] 63)) fun e w' => SortedNone (w.alloc (.cells #[.map (some b)] 63)) T e w' := by
  refine (sorted_call w h (by omega)).mono ?_
  rintro e w' ⟨v, L, rfl, hr, hl, _, hn, hB⟩
  obtain rfl := List.eq_nil_of_length_eq_zero hl
  exact ⟨by rw [hn.2 rfl], hr, hB⟩

theorem sorted_some (w : World) {b n : Nat} {T : Int → Int} {c : Nat} (h : TurnMap w b n T c) (hc0 : 0 < c) (hc : c ≤ 1000000000) :
    Calls Try.prog 47 #[.func (.func 55) #[] #[.pointer (some ⟨w.heap.size, 0, none⟩)]] (w.alloc (.cells #[.map (some b)] 63)) fun e w' => SortedSome (w.alloc (.cells #[.map (some b)] 63)) T c e w' := by
  refine (sorted_call w h hc).mono ?_
  rintro e w' ⟨v, L, rfl, hr, hl, hrow, hn, hB⟩
  rcases hrow.2 with ⟨rfl, h0⟩ | ⟨g, cap, cur, rfl, hg, hh, _, _, _, hx⟩
  · omega
  · refine ⟨g, cap, L, by rw [hl], hr, hl, hg, (Array.getElem?_eq_some_iff.1 hh).1, fun i x hi => ?_, hB⟩
    rw [cellAt hh, ← Array.getElem?_toList]
    have h1 : (cur.toList.take (L.length * 1))[i]? = some (.int .i64 x) := by rw [hx, List.getElem?_map, hi]; rfl
    rw [List.getElem?_take] at h1
    split at h1
    · exact h1
    · cases h1

end Go.Proofs.Ytbmbibepcnpngaa
