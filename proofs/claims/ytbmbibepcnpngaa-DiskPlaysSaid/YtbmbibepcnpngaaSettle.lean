/-
  settle.
-/
import Derived.Test.YtbmbibepcnpngaaLook
import Derived.Deep.LoopGhost
import Derived.Outline
namespace Go.Proofs.Ytbmbibepcnpngaa
open Go.RowKit Go.Maps

def dropV (V : Int → Int → List UInt8) (s k : Int) : Int → Int → List UInt8 := fun s' t' => if s' = s ∧ 1 ≤ t' ∧ t' ≤ k then noughts else V s' t'
theorem dropV_zero (V : Int → Int → List UInt8) (s : Int) : ∀ s' t', V s' t' = dropV V s 0 s' t' := by
  intro s' t'
  unfold dropV
  rw [if_neg (by omega)]
theorem dropV_succ (V : Int → Int → List UInt8) (s k : Int) (hk : 0 ≤ k) : ∀ s' t', upd (dropV V s k) s (k + 1) noughts s' t' = dropV V s (k + 1) s' t' := by
  intro s' t'
  unfold upd dropV
  by_cases h : s' = s ∧ t' = k + 1
  · rw [if_pos h, if_pos (by omega)]
  · rw [if_neg h]
    by_cases h2 : s' = s ∧ 1 ≤ t' ∧ t' ≤ k
    · rw [if_pos h2, if_pos (by omega)]
    · rw [if_neg h2, if_neg (by omega)]
def settleV (V : Int → Int → List UInt8) (s turn k : Int) : Int → Int → List UInt8 := upd (dropV V s k) s 0 (V s turn)

/-- How the loop stands when k of the values have gone. -/
structure SetAt (w : World) (g bv nv : Nat) (V : Int → Int → List UInt8) (s turn k : Int) (wr : World) : Prop where
  map : SecMap wr bv nv (dropV V s k)
  fr : Fr (· = bv) w wr
  own : wr.heap[g]? = some (.cells (secC (V s turn)) 68 (0, 0))

set_option maxRecDepth 100000 in
set_option maxHeartbeats 1000000 in
theorem settle_any (w : World) {pb : Nat} {N : Int} {bv bt nv nt c : Nat} {ops lim : Int} {dk : Bool} {V : Int → Int → List UInt8} {T : Int → Int} (hb : Blk w pb N bv bt ops lim dk) (hv : SecMap w bv nv V) (ht : TurnMap w bt nt T c) (hne : bv ≠ bt)
    (s turn : Int) (hs : I64 s) (hturn : I64 turn) (hT0 : 0 ≤ T s) (hT1 : T s ≤ 1000000000000) (hnv : nv < 1000000000000) :
    Calls Try.prog 45 #[.pointer (some ⟨pb, 0, none⟩), .int .i64 s, .int .i64 turn] w fun e w' => e = .returned (.tuple #[]) ∧ SecMap w' bv (nv + 1) (settleV V s turn (T s)) ∧ Fr (· = bv) w w' := by
  have np := ht.ne_blk hb
  have nv' := hv.ne_blk hb
  have hvlt := hv.lt
  have c1 := hb.c1
  have hl := (hv.look hs hturn).2
  have HL := Lib.hid hl
  have HV := Lib.hid hv
  have hnv' : nv < maxLen := by unfold maxLen; omega
  have HNV := Lib.hid hnv'
  have HNE := Lib.hid (show bv ≠ bt ∧ bt ≠ pb ∧ bv ≠ pb from ⟨hne, np, nv'⟩)
  -- the world as the loop meets it: the block's and the turns' facts
  have hk : ∀ w', Fr (· = bv) w w' → w'.cell? ⟨pb, 1, none⟩ = some (.map (some bv)) ∧ w'.cell? ⟨pb, 2, none⟩ = some (.map (some bt)) ∧ TurnMap w' bt nt T c := fun w' hF =>
    ⟨(hb.kept hF (Ne.symm nv')).c1, (hb.kept hF (Ne.symm nv')).c2, ht.kept hF (Ne.symm hne)⟩
  have HK := Lib.hid hk
  have HA : Hid ((w.alloc (.cells (secC noughts) 68)).heap[w.heap.size]? = some (.cells (secC noughts) 68 (0, 0))) := heap_alloc_new _ _
  have HW1 : Hid (∀ w1 : World, w1.heap[w.heap.size]? = some (.cells (secC (V s turn)) 68 (0, 0)) → Fr (· = w.heap.size) (w.alloc (.cells (secC noughts) 68)) w1 → SetAt w w.heap.size bv nv V s turn 0 w1 ∧ TurnMap w1 bt nt T c ∧ w1.cell? ⟨pb, 2, none⟩ = some (.map (some bt))) := fun w1 h1 hF1 => by
    have hA : Fr (· = w.heap.size) w w1 := ((Fr.refl (· = w.heap.size) w).alloc _).trans hF1 (fun _ _ e => e)
    have hF1' : Fr (· = bv) w w1 := hA.mono (fun i hi e => by omega)
    exact ⟨⟨(hv.kept hA (fun e => by omega)).congr (dropV_zero V s), hF1', h1⟩, (hk w1 hF1').2.2, (hk w1 hF1').2.1⟩
  clear hk hl hnv' hne np nv' hv ht hb
  obtain ⟨m, hm⟩ : ∃ m : Nat, T s = m := ⟨(T s).toNat, by omega⟩
  have hmb : (m : Int) ≤ 1000000000000 := by omega
  go_enter Try.func45, Try.ntmps45
  go_wp2_with (first
    | ((with_reducible refine wpList_lookSec ?_ (.tmp 11) (.tmp 14) ?_ bv nv V s turn HV.out hs hturn ?_ ?_ ?_); (exact rfl); (exact rfl); (exact rfl); (exact rfl); intro _)
    | ((with_reducible refine wpList_allocArr ?_ ?_ ?_); (exact rfl); (exact rfl))
    | ((with_reducible refine wpList_storeArr ?_ (.tmp 6) (.tmp 15) ?_ w.heap.size (V s turn) noughts HL.out noughts_length ?_ ?_ HA.out ?_); (exact rfl); (exact rfl); (exact rfl); (exact rfl); intro w1 h1 hF1 hs1;
        obtain ⟨hS1, hT1', c2⟩ := HW1.out w1 h1 hF1; have HS1 := Lib.hid hS1; have HT1 := Lib.hid hT1'; clear h1 hF1 hs1 hS1 hT1')
    | ((with_reducible refine wpList_lookTurn ?_ (.tmp 19) (.tmp 20) ?_ bt nt T c s HT1.out hs ?_ ?_ ?_); (exact rfl); (exact rfl); (exact rfl); (exact rfl)))
  have HM' := Lib.hid hm
  clear hm c1 c2
  go_loopw [22] (fun k wr => ∃ j : Nat, j ≤ m ∧ k = .int .i64 j ∧ Hid (SetAt w w.heap.size bv nv V s turn j wr)) (fun k _ => m - (intOf k).toNat)
  case atStart => exact ⟨0, Nat.zero_le _, rfl, HS1⟩
  case round =>
    obtain ⟨j, hj, rfl, HR⟩ := hrel
    have hk1 := HK.out wr HR.out.fr
    have c1 := hk1.1
    clear hk1
    by_cases hlt : j < m
    · have hj1 : I64 ((j : Int) + 1) := by constructor <;> omega
      go_wp2_with (first
        | ((with_reducible refine wpList_dropSec ?_ (.tmp 28) (.tmp 32) ?_ bv nv (dropV V s j) s (j + 1) HR.out.map hs hj1 ?_ ?_ ?_); (exact rfl); (exact rfl); (exact rfl); (exact rfl); intro w5 hm5 ht5; have HM5 := Lib.hid hm5; have HT5 := Lib.hid ht5; clear hm5 ht5))
      go_roundw
      case rel => exact ⟨j + 1, by omega, by go_num, (show SetAt _ _ _ _ _ _ _ _ _ from ⟨HM5.out.congr (fun s' t' => (dropV_succ V s j (by omega) s' t').trans (by rw [Int.natCast_succ])), HR.out.fr.ofTurned HT5.out (Or.inl rfl), (mapTurned_fr HT5.out).block _ (by have := HR.out.fr.size; exact Nat.lt_of_lt_of_le (Array.getElem?_eq_some_iff.1 HR.out.own).1 (Nat.le_refl _)) (fun e => by omega) |>.trans HR.out.own⟩)⟩
      case measure => simp [intOf]; omega
    · have hjm : j = m := by omega
      subst hjm
      have hF2 : Fr (· = bv) w wr.drew := HR.out.fr.drew
      obtain ⟨w6, hw6⟩ : ∃ w6, w6 = wr.drew := ⟨_, rfl⟩
      rw [← hw6] at hF2
      have HW6 := Lib.hid hw6
      have c1' := (HK.out w6 hF2).1
      have HO6 : Hid (w6.heap[w.heap.size]? = some (.cells (secC (V s turn)) 68 (0, 0))) := by rw [hw6]; exact HR.out.own
      have HV6 : Hid (SecMap w6 bv nv (dropV V s j)) := by rw [hw6]; exact HR.out.map
      have HF6 := Lib.hid hF2
      clear c1 hw6 hF2
      go_wp2_with fail
      refine region_tail 7 (by kernel_rfl) (by kernel_rfl) w6 HW6.out ?_
      simp only [List.take_succ_cons, List.take_zero, List.drop_succ_cons, List.drop_zero]
      repeat (first
        | ((with_reducible refine still_loadArr ?_ (.tmp 6) ?_ w.heap.size (V s turn) HL.out ?_ HO6.out ?_); (exact rfl); (exact rfl); (exact rfl))
        | still_step)
      refine wpStill_nil ?_
      go_wp2_with (first
        | ((with_reducible refine wpList_storeSec ?_ (.tmp 37) (.tmp 39) (.tmp 40) ?_ bv nv (dropV V s j) s 0 (V s turn) HV6.out hs I64.zero HL.out HNV.out ?_ ?_ ?_ ?_); (exact rfl); (exact rfl); (exact rfl); (exact rfl); (exact rfl); intro w7 hm7 ht7; have HM7 := Lib.hid hm7; have HT7 := Lib.hid ht7; clear hm7 ht7))
      go_end0
      exact ⟨rfl, by rw [HM'.out]; exact HM7.out, HF6.out.ofTurned HT7.out (Or.inl rfl)⟩

end Go.Proofs.Ytbmbibepcnpngaa
