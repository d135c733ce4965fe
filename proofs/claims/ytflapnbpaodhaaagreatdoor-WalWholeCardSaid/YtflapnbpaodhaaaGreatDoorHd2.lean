/-
  The log's questions; sectors as they lie, and as they are told.
-/
import Derived.Test.YtflapnbpaodhaaaGreatDoorHd1
import Derived.Test.YtflapnbpaodhaaaGreatDoorRz
namespace Go.Proofs.YtflapnbpaodhaaaGreatDoor.hd
set_option maxRecDepth 100000
open Go.RowKit Go.Maps ds
set_option maxRecDepth 100000

set_option maxHeartbeats 1000000 in
theorem madeW_yes (w : World) (wb pb : Nat) (c0 : w.cell? ⟨wb, 0, none⟩ = some (.pointer (some ⟨pb, 0, none⟩))) : Calls Tryz.prog 32 #[.pointer (some ⟨wb, 0, none⟩)] w fun e w' => e = .returned (.bool true) ∧ w = w' := by
  go_enter Tryz.func32, Tryz.ntmps32
  go_wp2
  go_ret
  exact ⟨rfl, rfl⟩
set_option maxHeartbeats 1000000 in
theorem madeW_nil (w : World) : Calls Tryz.prog 32 #[.pointer none] w fun e w' => e = .returned (.bool false) ∧ w = w' := by
  go_enter Tryz.func32, Tryz.ntmps32
  go_wp2
  go_ret
  exact ⟨rfl, rfl⟩
set_option maxHeartbeats 1000000 in
theorem madeW_no (w : World) (wb : Nat) (c0 : w.cell? ⟨wb, 0, none⟩ = some (.pointer none)) : Calls Tryz.prog 32 #[.pointer (some ⟨wb, 0, none⟩)] w fun e w' => e = .returned (.bool false) ∧ w = w' := by
  go_enter Tryz.func32, Tryz.ntmps32
  go_wp2
  go_ret
  exact ⟨rfl, rfl⟩
section
variable {w : World} {wb pb at_ rc turn : Nat} {sp : Bool} (h : w.heap[wb]? = some (walO pb at_ rc turn sp))
include h
set_option maxHeartbeats 1000000 in
theorem turnW : Calls Tryz.prog 20 #[.pointer (some ⟨wb, 0, none⟩)] w fun e w' => e = .returned (.int .i64 (turn : Int)) ∧ w = w' := by
  obtain ⟨c0, _, _, c3, _⟩ := wal_c h
  have HM := Lib.hid (madeW_yes w wb pb c0)
  clear h
  go_enter Tryz.func20, Tryz.ntmps20
  go_wp2_with (go_at_call 32; refine HM.out.mono ?_; rintro e w' ⟨rfl, rfl⟩)
  go_ret
  exact ⟨rfl, rfl⟩
set_option maxHeartbeats 1000000 in
theorem capW : Calls Tryz.prog 24 #[.pointer (some ⟨wb, 0, none⟩)] w fun e w' => e = .returned (.int .i64 (rc : Int)) ∧ w = w' := by
  obtain ⟨c0, _, c2, _⟩ := wal_c h
  have HM := Lib.hid (madeW_yes w wb pb c0)
  clear h
  go_enter Tryz.func24, Tryz.ntmps24
  go_wp2_with (go_at_call 32; refine HM.out.mono ?_; rintro e w' ⟨rfl, rfl⟩)
  go_ret
  exact ⟨rfl, rfl⟩
set_option maxHeartbeats 1000000 in
theorem homeW (h1 : at_ ≤ 100000) (h2 : rc ≤ 100000) : Calls Tryz.prog 23 #[.pointer (some ⟨wb, 0, none⟩)] w fun e w' => e = .returned (.int .i64 ((at_ + 1 + rc : Nat) : Int)) ∧ Fr (fun _ => False) w w' := by
  obtain ⟨c0, c1, c2, _⟩ := wal_c h
  have HM := Lib.hid (madeW_yes w wb pb c0)
  have HH := Lib.hid (home_any w pb at_ rc h1 h2)
  unfold roomV at HH
  clear h
  go_enter Tryz.func23, Tryz.ntmps23
  go_wp2_with (first
    | (go_at_call 32; refine HM.out.mono ?_; rintro e w' ⟨rfl, rfl⟩)
    | (go_at_call 46; refine HH.out.mono ?_; rintro e w' ⟨rfl, hF⟩; have HF := Lib.hid hF; clear hF))
  go_ret
  exact ⟨rfl, HF.out⟩
end
/-- What its bytes are. -/
def byteAt (w : World) (a : Addr) : UInt8 := match w.cell? a with
  | some (.int _ n) => UInt8.ofNat n.toNat
  | _ => 0
def datOf (w : World) (z : sq.Bk) : List UInt8 := match z.2.1 with
  | some a => (List.range 256).map fun j => byteAt w ⟨a.block, a.off + j, none⟩
  | none => []
def tell (w : World) (z : sq.Bk) : Int × List UInt8 := (z.1, datOf w z)
theorem datOf_eq {w : World} {z : sq.Bk} {l : List UInt8} {b o c : Nat} (hz : z.2 = (some ⟨b, o, none⟩, 256, c)) (hl : l.length = 256) (hr : Reads w b o l) : datOf w z = l := by
  unfold datOf
  rw [hz]
  apply List.ext_getElem
  · simp [hl]
  · intro i h1 h2
    have hc := hr i l[i] (List.getElem?_eq_getElem h2)
    simp only [List.getElem_map, List.getElem_range]
    unfold byteAt
    rw [hc]
    simp
/-- A slice of sectors, as a value. -/
structure SlT (w : World) (p : Option Addr) (cap : Nat) (l : List (Int × List UInt8)) : Prop where
  bks : BksT w p l
  none_ : p = none → cap = 0
  some_ : ∀ a, p = some a → ∃ b o, a = ⟨b, o, none⟩ ∧ b < w.heap.size
theorem SlT.told {w : World} {p : Option Addr} {cap : Nat} {l : List (Int × List UInt8)} (h : SlT w p cap l) : ∃ zs : List sq.Bk, zs.length = l.length ∧ sq.Bks w.heap.size w (.slice p l.length cap) zs ∧ l = zs.map (tell w) ∧ ∀ z ∈ zs, DatT w (sq.bv z) (datOf w z) := by
  by_cases hl : l = []
  · subst hl
    refine ⟨[], rfl, ?_, rfl, fun z hz => by cases hz⟩
    cases hp : p with
    | none => exact .inl ⟨by rw [h.none_ hp]; rfl, rfl⟩
    | some a =>
      obtain ⟨b, o, rfl, hb⟩ := h.some_ a hp
      exact .inr ⟨b, o, cap, rfl, hb, fun j x hx => by simp at hx⟩
  · obtain ⟨blk, off, rfl, hb, hx⟩ := h.bks hl
    have key : ∀ i x, l[i]? = some x → ∃ z : sq.Bk, z.1 = x.1 ∧ w.cell? ⟨blk, off + i * 2, none⟩ = some (.int .i64 z.1) ∧ w.cell? ⟨blk, off + i * 2 + 1, none⟩ = some (sq.bv z) ∧ DatT w (sq.bv z) x.2 ∧ datOf w z = x.2 := fun i x hi => by
      obtain ⟨c0, b, o, c, t, c1, hlen, ht, hd, hk, hr⟩ := hx i x hi
      exact ⟨(x.1, some ⟨b, o, none⟩, 256, c), rfl, c0, c1, ⟨b, o, c, t, rfl, hlen, ht, hd, hk, hr⟩, datOf_eq rfl hlen hr⟩
    have all : ∀ k, k ≤ l.length → ∃ zs : List sq.Bk, zs.length = k ∧ (∀ i z, zs[i]? = some z → w.cell? ⟨blk, off + i * 2, none⟩ = some (.int .i64 z.1) ∧ w.cell? ⟨blk, off + i * 2 + 1, none⟩ = some (sq.bv z)) ∧ l.take k = zs.map (tell w) ∧ ∀ z ∈ zs, DatT w (sq.bv z) (datOf w z) := by
      intro k
      induction k with
      | zero => exact fun _ => ⟨[], rfl, fun i z hz => by simp at hz, rfl, fun z hz => by cases hz⟩
      | succ k ih =>
        intro hk
        obtain ⟨zs, h1, h2, h3, h4⟩ := ih (by omega)
        have hkl : k < l.length := by omega
        obtain ⟨z, e1, c0, c1, hd, he⟩ := key k l[k] (List.getElem?_eq_getElem hkl)
        refine ⟨zs ++ [z], by simp [h1], fun i y hy => ?_, ?_, fun y hy => ?_⟩
        · by_cases hi : i < zs.length
          · rw [List.getElem?_append_left hi] at hy
            exact h2 i y hy
          · have hik : i = k := by
              have := (List.getElem?_eq_some_iff.1 hy).1
              simp at this
              omega
            subst hik
            rw [List.getElem?_append_right (by omega), h1] at hy
            obtain rfl : z = y := by simpa using hy
            exact ⟨c0, c1⟩
        · rw [List.take_succ_eq_append_getElem hkl, h3, List.map_append]
          congr 1
          show [l[k]] = [(z.1, datOf w z)]
          rw [e1, he]
        · rcases List.mem_append.1 hy with hy | hy
          · exact h4 y hy
          · obtain rfl : y = z := by simpa using hy
            rw [he]
            exact hd
    obtain ⟨zs, h1, h2, h3, h4⟩ := all l.length (Nat.le_refl _)
    rw [List.take_length] at h3
    exact ⟨zs, h1, .inr ⟨blk, off, cap, by rw [h1], hb.lt, h2⟩, h3, h4⟩
/-- .. and behind the sort. -/
theorem sorted_told {w w' : World} {v : Value} {zs ys : List sq.Bk} (h : sq.SortedAt w w' v zs ys) (hd : ∀ z ∈ zs, DatT w (sq.bv z) (datOf w z)) : ∃ p cap, v = .slice p ys.length cap ∧ BksT w' p (ys.map (tell w)) := by
  obtain ⟨hp, _, ⟨p, cap, rfl, hx⟩, hF⟩ := h
  refine ⟨p, cap, rfl, fun hne => ?_⟩
  obtain ⟨g, rfl, _, hty, hc⟩ := hx (by rintro rfl; exact hne rfl)
  refine ⟨g, 0, rfl, hty, fun i x hi => ?_⟩
  rw [List.getElem?_map] at hi
  cases hy : ys[i]? with
  | none => rw [hy] at hi; cases hi
  | some z =>
    rw [hy] at hi
    obtain rfl : tell w z = x := by simpa using hi
    obtain ⟨c0, c1⟩ := hc i z hy
    obtain ⟨b, o, c, t, hv, hl, ht, hdd, hk, hr⟩ := (hd z (hp.mem_iff.1 (List.mem_of_getElem? hy))).keep (Keep.of_fr hF)
    exact ⟨by rw [Nat.zero_add]; exact c0, b, o, c, t, by rw [Nat.zero_add, ← hv]; exact c1, hl, ht, hdd, hk, hr⟩
end Go.Proofs.YtflapnbpaodhaaaGreatDoor.hd
