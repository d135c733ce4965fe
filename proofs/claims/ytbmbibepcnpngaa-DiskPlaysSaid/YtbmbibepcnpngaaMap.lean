/-
  A disk's two maps: values (keys: sector and turn; elements: 256 bytes), turns (keys and elements: numbers).
-/
import Derived.Test.YtbmbibepcnpngaaArr
import Derived.Test.YtbmbibepcnpngaaBy
import Derived.DeepKeys4
import Derived.StillTailTactics
namespace Go.Proofs.Ytbmbibepcnpngaa
open Go.RowKit Go.Maps Go.WideMaps

theorem rowPlace : (71 : TypeId) < Try.prog.types.size := of_decide_eq_true (by kernel_rfl)
theorem ktAtPlace : Try.prog.keyTypeAt 2 71 = true := by kernel_rfl
theorem two_le : (2 : Nat) + 1 ≤ 10000 := by omega
theorem lawPlace : KeyLaw Try.prog 71 := deep_law_laid laidOut two_le rowPlace ktAtPlace (by rw [Try.underlying71])
theorem keyedPlace : Keyed Try.prog 71 := Keyed.of_law lawPlace
theorem keyedInt : Keyed Try.prog 3 := int_keyed Try.underlying3
theorem zeroInt (w : World) : (zeroValue 3).run Try.prog w = .ok (.int .i64 0) w := by kernel_rfl
theorem ktPlace : Try.prog.keyType 71 = true := by kernel_rfl
theorem cellsPlace : Try.prog.cellsOf 71 = 2 := by kernel_rfl
theorem cellsInt : Try.prog.cellsOf 3 = 1 := by kernel_rfl
theorem typesSize : ∃ m, Try.prog.types.size = m + 1 := by
  have h : (71 : Nat) < Try.prog.types.size := rowPlace
  exact ⟨_, (Nat.succ_pred_eq_of_pos (Nat.lt_of_le_of_lt (Nat.zero_le _) h)).symm⟩

/-- A number of 64 bits. -/
abbrev I64 (x : Int) : Prop := -9223372036854775808 ≤ x ∧ x ≤ 9223372036854775807
theorem I64.wf {x : Int} (h : I64 x) : (Lit.int .i64 x).wf = true := WalkArith.wf_i64 (by omega)

theorem I64.of_wf {x : Int} (h : (Lit.int .i64 x).wf = true) : I64 x := by
  have h1 : (decide (-9223372036854775808 ≤ x) && decide (x ≤ 9223372036854775807)) = true := h
  simpa using h1

/-- The key of a value. -/
def keyV (s t : Int) : Value := .agg #[.int .i64 s, .int .i64 t]
def kl (s t : Int) : Lit := .string (keyBytes [.int .i64 s, .int .i64 t])

theorem keyOf_place {s t : Int} (hs : I64 s) (ht : I64 t) : keyOf Try.prog 71 (keyV s t) = some (kl s t) := by
  obtain ⟨m, hm⟩ := typesSize
  have ws := hs.wf
  have wt := ht.wf
  unfold keyOf keyV kl
  simp only [Try.underlying71]
  rw [if_pos (by simp [ktPlace, Value.formed, Try.underlying71, cellsPlace]), hm]
  unfold Program.keyLits
  simp only [Try.underlying71, Value.cells]
  rw [if_pos (by rw [cellsPlace]; exact ⟨rfl, by simp⟩)]
  simp [Program.keyLits, cellsInt, Try.underlying3, ws, wt]

theorem kl_ne {s t s' t' : Int} (hs : I64 s) (ht : I64 t) (hs' : I64 s') (ht' : I64 t') (h : ¬ (s = s' ∧ t = t')) : kl s t ≠ kl s' t' := by
  intro e
  have h1 := keyOf_place hs ht
  have h2 := keyOf_place hs' ht'
  rw [← e] at h2
  have h3 := keyedPlace.inj h1 h2
  unfold keyV at h3
  simp only [Value.agg.injEq] at h3
  have h4 := congrArg Array.toList h3
  simp only [List.cons.injEq, Value.int.injEq, true_and, and_true] at h4
  exact h h4

/-! ### an element -/
abbrev DU := DataW Unit
def byteOf : Value → Option UInt8
  | .int .u8 n => if 0 ≤ n ∧ n < 256 then some (UInt8.ofNat n.toNat) else none
  | _ => none
def secR (v : Value) : Option (DU × List MemPlace) :=
  match v with
  | .agg cs => if cs.size = 256 then (cs.toList.mapM byteOf).map fun l => (.lit (.string l), []) else none
  | _ => none

theorem byteOf_mk (b : UInt8) : byteOf (.int .u8 (b.toNat : Int)) = some b := by
  have h := b.toNat_lt
  show (if 0 ≤ (b.toNat : Int) ∧ (b.toNat : Int) < 256 then some (UInt8.ofNat (b.toNat : Int).toNat) else none) = some b
  rw [if_pos (by omega)]
  simp

theorem byteOf_inv {v : Value} {b : UInt8} (h : byteOf v = some b) : v = .int .u8 (b.toNat : Int) := by
  unfold byteOf at h
  split at h
  · rename_i n
    split at h
    · rename_i hn
      simp only [Option.some.injEq] at h
      subst h
      congr 1
      rw [UInt8.toNat_ofNat']
      omega
    · cases h
  · cases h

theorem mapM_byteOf : ∀ l : List UInt8, (cellsOf l).mapM byteOf = some l
  | [] => rfl
  | b :: l => by
    have h := mapM_byteOf l
    unfold cellsOf at h ⊢
    rw [List.map_cons, List.mapM_cons, byteOf_mk, h]
    rfl

theorem mapM_byteOf_inv : ∀ {vs : List Value} {l : List UInt8}, vs.mapM byteOf = some l → vs = cellsOf l
  | [], l, h => by
    simp only [List.mapM_nil] at h
    cases h
    rfl
  | v :: vs, l, h => by
    rw [List.mapM_cons] at h
    cases hv : byteOf v with
    | none => rw [hv] at h; cases h
    | some b =>
      rw [hv] at h
      cases hl : vs.mapM byteOf with
      | none => rw [hl] at h; cases h
      | some l' =>
        rw [hl] at h
        cases h
        rw [byteOf_inv hv, mapM_byteOf_inv hl]
        rfl

theorem secR_mk {l : List UInt8} (hl : l.length = 256) : secR (secV l) = some (.lit (.string l), []) := by
  unfold secR secV
  simp only
  rw [if_pos (by rw [secC_size, hl])]
  unfold secC
  simp only [mapM_byteOf, Option.map_some]

theorem secR_inv {v : Value} {y : DU × List MemPlace} (h : secR v = some y) : ∃ l, l.length = 256 ∧ v = secV l ∧ y = (.lit (.string l), []) := by
  unfold secR at h
  split at h
  · rename_i cs
    split at h
    · rename_i hs
      cases hl : cs.toList.mapM byteOf with
      | none => rw [hl] at h; cases h
      | some l =>
        rw [hl] at h
        cases h
        have hc := mapM_byteOf_inv hl
        refine ⟨l, ?_, ?_, rfl⟩
        · have := congrArg List.length hc
          rw [cellsOf_length] at this
          rw [← this]
          simpa using hs
        · unfold secV secC
          rw [← hc]
    · cases h
  · cases h

/-! ### values -/
/-- Block b is the map of values: V tells what a place reads as (256 noughts where there is nothing). -/
def SecMap (w : World) (b n : Nat) (V : Int → Int → List UInt8) : Prop :=
  ∃ D : DU, w.ownsMap Try.prog 71 secR b n D ∧ ∀ s t, I64 s → I64 t → D.atKey (kl s t) (.lit (.string noughts)) = .lit (.string (V s t))

def upd (V : Int → Int → List UInt8) (s t : Int) (l : List UInt8) : Int → Int → List UInt8 := fun s' t' => if s' = s ∧ t' = t then l else V s' t'

theorem SecMap.lt {w : World} {b n : Nat} {V : Int → Int → List UInt8} (h : SecMap w b n V) : b < w.heap.size := by
  obtain ⟨D, h, _⟩ := h
  exact h.lt
theorem SecMap.ne_blk {w : World} {b n : Nat} {V : Int → Int → List UInt8} (h : SecMap w b n V) {pb : Nat} {N : Int} {bv bt : Nat} {ops lim : Int} {dk : Bool} (hb : Blk w pb N bv bt ops lim dk) : b ≠ pb := by
  obtain ⟨D, ⟨es, clock, h1, _⟩, _⟩ := h
  exact hb.ne_map h1
theorem SecMap.mono {w : World} {b n n' : Nat} {V : Int → Int → List UInt8} (h : SecMap w b n V) (hn : n ≤ n') : SecMap w b n' V := by
  obtain ⟨D, h, e⟩ := h
  exact ⟨D, h.mono hn, e⟩
theorem SecMap.kept {w w' : World} {b n : Nat} {V : Int → Int → List UInt8} {S : Nat → Prop} (h : SecMap w b n V) (hf : Fr S w w') (hb : ¬ S b) : SecMap w' b n V := by
  obtain ⟨D, h, e⟩ := h
  exact ⟨D, hf.ownsMap h hb, e⟩
theorem SecMap.congr {w : World} {b n : Nat} {V V' : Int → Int → List UInt8} (h : SecMap w b n V) (hV : ∀ s t, V s t = V' s t) : SecMap w b n V' := by
  obtain ⟨D, h, e⟩ := h
  exact ⟨D, h, fun s t hs ht => by rw [e s t hs ht, hV]⟩
theorem SecMap.made (w : World) : SecMap (w.alloc (.map #[] 0)) w.heap.size 0 (fun _ _ => noughts) :=
  ⟨.map [], World.ownsMap_made _ _ _ _, fun _ _ _ _ => rfl⟩

theorem SecMap.look {w : World} {b n : Nat} {V : Int → Int → List UInt8} (h : SecMap w b n V) {s t : Int} (hs : I64 s) (ht : I64 t) :
    (Instr.lookup 62 (.map (some b)) (keyV s t) false).run Try.prog w = .ok (secV (V s t)) w ∧ (V s t).length = 256 := by
  obtain ⟨D, h, e⟩ := h
  obtain ⟨v, ps, hrun, hv⟩ := h.lookup keyedPlace Try.underlying62 (zeroArr _) (secR_mk noughts_length) (keyOf_place hs ht)
  rw [e s t hs ht] at hv
  obtain ⟨l, hl, rfl, hy⟩ := secR_inv hv
  simp only [Prod.mk.injEq, DataW.lit.injEq, Lit.string.injEq] at hy
  obtain ⟨hy, _⟩ := hy
  rw [hy]
  exact ⟨hrun, hl⟩

theorem SecMap.put {w w' : World} {b n m : Nat} {D : DU} {V : Int → Int → List UInt8} (h : w.ownsMap Try.prog 71 secR b n D) (e : ∀ s t, I64 s → I64 t → D.atKey (kl s t) (.lit (.string noughts)) = .lit (.string (V s t)))
    {s t : Int} (hs : I64 s) (ht : I64 t) {l : List UInt8} (h' : w'.ownsMap Try.prog 71 secR b m (D.put (kl s t) (.lit (.string l)))) : SecMap w' b m (upd V s t l) := by
  refine ⟨_, h', fun s' t' hs' ht' => ?_⟩
  unfold upd
  by_cases hc : s' = s ∧ t' = t
  · rw [if_pos hc]
    obtain ⟨rfl, rfl⟩ := hc
    exact atKey_put_same h.isMap (keyedPlace.key (keyOf_place hs ht)) _ _
  · rw [if_neg hc, atKey_put_other (kl_ne hs' ht' hs ht hc), e s' t' hs' ht']

theorem SecMap.store {w : World} {b n : Nat} {V : Int → Int → List UInt8} (h : SecMap w b n V) {s t : Int} (hs : I64 s) (ht : I64 t) {l : List UInt8} (hl : l.length = 256) (hn : n < maxLen) :
    ∃ w', (Instr.mapUpdate 62 (.map (some b)) (keyV s t) (secV l)).run Try.prog w = .ok () w' ∧ SecMap w' b (n + 1) (upd V s t l) ∧ w.mapTurned w' b := by
  obtain ⟨D, h, e⟩ := h
  obtain ⟨w', hrun, h1, h2⟩ := h.store keyedPlace Try.underlying62 hn (keyOf_place hs ht) (secR_mk hl)
  exact ⟨w', hrun, SecMap.put h e hs ht h1, h2⟩

theorem SecMap.drop {w : World} {b n : Nat} {V : Int → Int → List UInt8} (h : SecMap w b n V) {s t : Int} (hs : I64 s) (ht : I64 t) (ty : TypeId) :
    ∃ w', (Builtin.delete_ #[62, 71] ty #[.map (some b), keyV s t]).run Try.prog w = .ok (.tuple #[]) w' ∧ SecMap w' b n (upd V s t noughts) ∧ w.mapTurned w' b := by
  obtain ⟨D, h, e⟩ := h
  obtain ⟨w', hrun, h1, h2⟩ := h.drop keyedPlace Try.underlying62 (keyOf_place hs ht) ty
  refine ⟨w', hrun, ⟨_, h1, fun s' t' hs' ht' => ?_⟩, h2⟩
  unfold upd
  by_cases hc : s' = s ∧ t' = t
  · rw [if_pos hc]
    obtain ⟨rfl, rfl⟩ := hc
    exact atKey_del_same _
  · rw [if_neg hc, atKey_del_other (kl_ne hs' ht' hs ht hc), e s' t' hs' ht']

theorem mapTurned_fr {w w' : World} {b : Nat} (h : w.mapTurned w' b) : Fr (· = b) w w' := (Fr.refl _ w).ofTurned h (Or.inl rfl)
theorem mapTurned_size {w w' : World} {b : Nat} (h : w.mapTurned w' b) : w'.heap.size = w.heap.size := by
  obtain ⟨es, c, es', c', _, rfl⟩ := h
  simp [ChangeMaps.setBlock]

section
variable {ops : Array Oper} {rest : List Oper} {o : Oper} {a : Act} {w : World} {Q : Exit → Act → World → Prop}

theorem wpList_lookSec (hg : o.guard = none) (m x : Operand) (ho : o.op = .lookup 62 m x false) (b n : Nat) (V : Int → Int → List UInt8) (s t : Int) (hown : SecMap w b n V) (hs : I64 s) (ht : I64 t)
    (hm : a.eval m = .map (some b)) (hx : a.eval x = keyV s t) (h : (V s t).length = 256 → wpList Try.prog ops Q rest (a.put o.dst (secV (V s t))) w) : wpList Try.prog ops Q (o :: rest) a w := by
  refine wpList_plain hg fun K hK => ?_
  obtain ⟨hrun, hl⟩ := hown.look hs ht
  unfold Oper.wp
  simp [execOp, ho, hm, hx, hrun, Result.andThen]
  exact hK _ _ (h hl)

theorem wpList_storeSec (hg : o.guard = none) (m x v : Operand) (ho : o.op = .mapUpdate 62 m x v) (b n : Nat) (V : Int → Int → List UInt8) (s t : Int) (l : List UInt8) (hown : SecMap w b n V) (hs : I64 s) (ht : I64 t) (hl : l.length = 256) (hn : n < maxLen)
    (hm : a.eval m = .map (some b)) (hx : a.eval x = keyV s t) (hv : a.eval v = secV l) (h : ∀ w', SecMap w' b (n + 1) (upd V s t l) → w.mapTurned w' b → wpList Try.prog ops Q rest (a.put o.dst undef) w') : wpList Try.prog ops Q (o :: rest) a w := by
  refine wpList_plain hg fun K hK => ?_
  obtain ⟨w', hrun, h1, h2⟩ := hown.store hs ht hl hn
  unfold Oper.wp
  simp [execOp, ho, hm, hx, hv, hrun, Result.andThen]
  exact hK _ _ (h w' h1 h2)

theorem wpList_dropSec (hg : o.guard = none) (m x : Operand) (ho : o.op = Op.call { callee := Callee.builtin Builtin.delete, args := #[m, x], argTypes := #[62, 71] }) (b n : Nat) (V : Int → Int → List UInt8) (s t : Int) (hown : SecMap w b n V) (hs : I64 s) (ht : I64 t)
    (hm : a.eval m = .map (some b)) (hx : a.eval x = keyV s t) (h : ∀ w', SecMap w' b n (upd V s t noughts) → w.mapTurned w' b → wpList Try.prog ops Q rest (a.put o.dst (.tuple #[])) w') : wpList Try.prog ops Q (o :: rest) a w := by
  refine wpList_plain hg fun K hK => ?_
  obtain ⟨w', hrun, h1, h2⟩ := hown.drop hs ht o.type
  unfold Oper.wp
  simp [execOp, ho, resolve, invoke, builtin, hm, hx, hrun, Result.andThen]
  exact hK _ _ (h w' h1 h2)
end

/-- A region that draws its order: all that reads, in the text's order, then its end. -/
theorem region_tail {P : Program} {id : Nat} {Q : Exit → Act → World → Prop} {a : Act} {w : World} {l : List Oper} (n : Nat) (hm : P.follows .mixedOrders = true) (hB : Region.lexTailB .any l.toArray n = true) (W : World) (hW : W = w.drew)
    (h : wpStill P l.toArray W (fun a' => wpList P l.toArray Q (l.drop n) a' W) (l.take n) a) : (Code.region id l.toArray true).wp P Q a w := by
  subst hW
  exact wp_region_still_tail n hm hB h

theorem still_value {P : Program} {ops : Array Oper} {w : World} {Q : Act → Prop} {a : Act} {o : Oper} {rest : List Oper} (hg : o.guard = none) (v : Value) (hrun : (execOp a.eval o).run P w = .ok (.value v) w)
    (h : wpStill P ops w Q rest (a.put o.dst v)) : wpStill P ops w Q (o :: rest) a := by
  refine wpStill_step fun K hK => ?_
  have hw : Region.wanted o (yielded ops a.tmps) = true := by simp [Region.wanted, hg]
  rw [if_pos hw]
  unfold Oper.still
  rw [hrun, Oper.stillUpon_value]
  exact hK _ h

theorem still_lookSec {ops : Array Oper} {w : World} {Q : Act → Prop} {a : Act} {o : Oper} {rest : List Oper} (hg : o.guard = none) (m x : Operand) (ho : o.op = .lookup 62 m x false) (b n : Nat) (V : Int → Int → List UInt8) (s t : Int) (hown : SecMap w b n V) (hs : I64 s) (ht : I64 t)
    (hm : a.eval m = .map (some b)) (hx : a.eval x = keyV s t) (h : wpStill Try.prog ops w Q rest (a.put o.dst (secV (V s t)))) : wpStill Try.prog ops w Q (o :: rest) a := by
  refine still_value hg _ ?_ h
  obtain ⟨hrun, _⟩ := hown.look hs ht
  simp [execOp, ho, hm, hx, hrun, Result.andThen]

theorem still_loadArr {ops : Array Oper} {w : World} {Q : Act → Prop} {a : Act} {o : Oper} {rest : List Oper} (hgd : o.guard = none) (x : Operand) (ho : o.op = .load 68 x) (g : Nat) (l : List UInt8) (hl : l.length = 256)
    (hx : a.eval x = .pointer (some ⟨g, 0, none⟩)) (hg : w.heap[g]? = some (.cells (secC l) 68 (0, 0))) (h : wpStill Try.prog ops w Q rest (a.put o.dst (secV l))) : wpStill Try.prog ops w Q (o :: rest) a := by
  refine still_value hgd (secV l) ?_ h
  have hrun := run_loadVar_row (P := Try.prog) w g 68 68 (secC l) (0, 0) _ hg Try.underlying68 rfl (by rw [secC_size, hl]; exact infoArr)
  unfold execOp
  simp only [ho, hx, Instr.loadAt, Instr.sureAddr, Sem.run_bind, Sem.run_pure, Result.andThen_ok, hrun]
  rfl

/-! ### turns -/
/-- Block b is the map of turns: T tells each sector's (0 where there is none); cnt: how many sectors have one. -/
structure TurnD (D : DU) (T : Int → Int) (cnt : Nat) : Prop where
  at_ : ∀ s, I64 s → D.atKey (.int .i64 s) (.lit (.int .i64 0)) = .lit (.int .i64 (T s))
  has : ∀ s, I64 s → Maps.has D (.int .i64 s) = decide (0 < T s)
  size : Maps.size D = cnt

def TurnMap (w : World) (b n : Nat) (T : Int → Int) (cnt : Nat) : Prop :=
  ∃ D : DU, w.ownsMap Try.prog 3 (plainElem Try.prog 3) b n D ∧ TurnD D T cnt

def updT (T : Int → Int) (s x : Int) : Int → Int := fun s' => if s' = s then x else T s'

/-- How many sectors have a turn, behind one more. -/
def cntUp (t : Int) (c : Nat) : Nat := if 0 < t then c else c + 1

theorem TurnMap.lt {w : World} {b n : Nat} {T : Int → Int} {c : Nat} (h : TurnMap w b n T c) : b < w.heap.size := by
  obtain ⟨D, h, _⟩ := h
  exact h.lt
theorem TurnMap.ne_blk {w : World} {b n : Nat} {T : Int → Int} {c : Nat} (h : TurnMap w b n T c) {pb : Nat} {N : Int} {bv bt : Nat} {ops lim : Int} {dk : Bool} (hb : Blk w pb N bv bt ops lim dk) : b ≠ pb := by
  obtain ⟨D, ⟨es, clock, h1, _⟩, _⟩ := h
  exact hb.ne_map h1
theorem TurnMap.mono {w : World} {b n n' : Nat} {T : Int → Int} {c : Nat} (h : TurnMap w b n T c) (hn : n ≤ n') : TurnMap w b n' T c := by
  obtain ⟨D, h, e⟩ := h
  exact ⟨D, h.mono hn, e⟩
theorem TurnMap.kept {w w' : World} {b n : Nat} {T : Int → Int} {c : Nat} {S : Nat → Prop} (h : TurnMap w b n T c) (hf : Fr S w w') (hb : ¬ S b) : TurnMap w' b n T c := by
  obtain ⟨D, h, e⟩ := h
  exact ⟨D, hf.ownsMap h hb, e⟩
theorem TurnMap.congr {w : World} {b n : Nat} {T T' : Int → Int} {c : Nat} (h : TurnMap w b n T c) (hT : ∀ s, T s = T' s) : TurnMap w b n T' c := by
  obtain ⟨D, h, e⟩ := h
  exact ⟨D, h, ⟨fun s hs => by rw [e.at_ s hs, hT], fun s hs => by rw [e.has s hs, hT], e.size⟩⟩
theorem TurnMap.made (w : World) : TurnMap (w.alloc (.map #[] 0)) w.heap.size 0 (fun _ => 0) 0 :=
  ⟨.map [], World.ownsMap_made _ _ _ _, ⟨fun _ _ => rfl, fun _ _ => rfl, rfl⟩⟩

theorem TurnMap.look {w : World} {b n : Nat} {T : Int → Int} {c : Nat} (h : TurnMap w b n T c) {s : Int} (hs : I64 s) :
    (Instr.lookup 63 (.map (some b)) (.int .i64 s) false).run Try.prog w = .ok (.int .i64 (T s)) w ∧ I64 (T s) := by
  obtain ⟨D, h, e⟩ := h
  obtain ⟨x, hrun, hat, hw⟩ := h.lookup_int keyedInt Try.underlying63 Try.underlying3 (zeroInt _) (keyOf_int_mk Try.underlying3 hs.wf)
  rw [e.at_ s hs] at hat
  simp only [DataW.lit.injEq, Lit.int.injEq, true_and] at hat
  rw [hat]
  exact ⟨hrun, I64.of_wf hw⟩

theorem TurnMap.store {w : World} {b n : Nat} {T : Int → Int} {c : Nat} (h : TurnMap w b n T c) {s x : Int} (hs : I64 s) (hx : I64 x) (h0 : 0 < x) (hn : n < maxLen) :
    ∃ w', (Instr.mapUpdate 63 (.map (some b)) (.int .i64 s) (.int .i64 x)).run Try.prog w = .ok () w' ∧ TurnMap w' b (n + 1) (updT T s x) (cntUp (T s) c) ∧ w.mapTurned w' b := by
  obtain ⟨D, h, e⟩ := h
  obtain ⟨w', hrun, h1, h2⟩ := h.store keyedInt Try.underlying63 hn (keyOf_int_mk Try.underlying3 hs.wf) (plainElem_int Try.underlying3 hx.wf)
  have hkl : WideAt.IsKeyLit (.int .i64 s) := keyedInt.key (keyOf_int_mk Try.underlying3 hs.wf)
  refine ⟨w', hrun, ⟨_, h1, ⟨fun s' hs' => ?_, fun s' hs' => ?_, ?_⟩⟩, h2⟩
  · unfold updT
    by_cases hc : s' = s
    · rw [if_pos hc, hc]
      exact atKey_put_same h.isMap hkl _ _
    · rw [if_neg hc, atKey_put_other (by intro e'; cases e'; exact hc rfl), e.at_ s' hs']
  · unfold updT
    by_cases hc : s' = s
    · rw [if_pos hc, hc, has_put_same h.isMap hkl]
      simp [h0]
    · rw [if_neg hc, has_put_other (by intro e'; cases e'; exact hc rfl), e.has s' hs']
  · rw [size_put (h.tidy keyedInt), e.has s hs, e.size]
    simp [cntUp]

theorem TurnMap.len {w : World} {b n : Nat} {T : Int → Int} {c : Nat} (h : TurnMap w b n T c) (ty : TypeId) : (Builtin.len_ #[63] ty #[.map (some b)]).run Try.prog w = .ok (.int .i64 c) w := by
  obtain ⟨D, h, e⟩ := h
  rw [← e.size]
  exact h.len Try.underlying63 ty

section
variable {ops : Array Oper} {rest : List Oper} {o : Oper} {a : Act} {w : World} {Q : Exit → Act → World → Prop}
theorem wpList_lookTurn (hg : o.guard = none) (m x : Operand) (ho : o.op = .lookup 63 m x false) (b n : Nat) (T : Int → Int) (c : Nat) (s : Int) (hown : TurnMap w b n T c) (hs : I64 s)
    (hm : a.eval m = .map (some b)) (hx : a.eval x = .int .i64 s) (h : wpList Try.prog ops Q rest (a.put o.dst (.int .i64 (T s))) w) : wpList Try.prog ops Q (o :: rest) a w := by
  refine wpList_plain hg fun K hK => ?_
  obtain ⟨hrun, _⟩ := hown.look hs
  unfold Oper.wp
  simp [execOp, ho, hm, hx, hrun, Result.andThen]
  exact hK _ _ h

theorem wpList_storeTurn (hg : o.guard = none) (m x v : Operand) (ho : o.op = .mapUpdate 63 m x v) (b n : Nat) (T : Int → Int) (c : Nat) (s y : Int) (hown : TurnMap w b n T c) (hs : I64 s) (hy : I64 y) (h0 : 0 < y) (hn : n < maxLen)
    (hm : a.eval m = .map (some b)) (hx : a.eval x = .int .i64 s) (hv : a.eval v = .int .i64 y) (h : ∀ w', TurnMap w' b (n + 1) (updT T s y) (cntUp (T s) c) → w.mapTurned w' b → wpList Try.prog ops Q rest (a.put o.dst undef) w') : wpList Try.prog ops Q (o :: rest) a w := by
  refine wpList_plain hg fun K hK => ?_
  obtain ⟨w', hrun, h1, h2⟩ := hown.store hs hy h0 hn
  unfold Oper.wp
  simp [execOp, ho, hm, hx, hv, hrun, Result.andThen]
  exact hK _ _ (h w' h1 h2)
end

theorem still_lookTurn {ops : Array Oper} {w : World} {Q : Act → Prop} {a : Act} {o : Oper} {rest : List Oper} (hg : o.guard = none) (m x : Operand) (ho : o.op = .lookup 63 m x false) (b n : Nat) (T : Int → Int) (c : Nat) (s : Int) (hown : TurnMap w b n T c) (hs : I64 s)
    (hm : a.eval m = .map (some b)) (hx : a.eval x = .int .i64 s) (h : wpStill Try.prog ops w Q rest (a.put o.dst (.int .i64 (T s)))) : wpStill Try.prog ops w Q (o :: rest) a := by
  refine still_value hg _ ?_ h
  obtain ⟨hrun, _⟩ := hown.look hs
  simp [execOp, ho, hm, hx, hrun, Result.andThen]

end Go.Proofs.Ytbmbibepcnpngaa
