/-
  Archives (mathematics): what is read, and that it is within.
-/
import Derived.Test.YtgimiggffpokpaaGreatDoorJD
namespace Go.Proofs.YtgimiggffpokpaaGreatDoor.ta
set_option maxRecDepth 100000
open Go.Proofs.YtgimiggffpokpaaGreatDoor.pt (Tx okT cleanL targetL underT splitB joinB clean_ok clean_no target_in target_no okT_nil)
open Go.Proofs.YtgimiggffpokpaaGreatDoor.he (Bts Hd parseV emptyV parse_within printV)
open Go.Proofs.YtgimiggffpokpaaGreatDoor.vr (wholeV itoaV)
set_option maxRecDepth 100000

/-- An entry of a tree. -/
@[ext] structure En where
  path : Tx
  kind : Int
  mode : Int
  data : Tx
deriving DecidableEq
def noE : En := ⟨[], 0, 0, []⟩

/-! ### records -/
/-- The first record's digits. -/
def digR (b : Bts) : Bts := (b.take 7).takeWhile (fun x => decide (x ≠ 32))
def keyR (s : Bts) : Bts := s.takeWhile (fun x => decide (x ≠ 61))
/-- A record: its length, key and value. -/
def recR (b : Bts) : Option (Nat × Bts × Bts) :=
  match wholeV (digR b) 6 with
  | none => none
  | some n =>
    let s := (b.take (n - 1)).drop ((digR b).length + 1)
    if n = 0 ∨ b.length < n ∨ n ≤ (digR b).length + 1 ∨ b[n - 1]? ≠ some 10 ∨ b[(digR b).length]? ≠ some 32 ∨ (61 : UInt8) ∉ s then none else some (n, keyR s, s.drop ((keyR s).length + 1))
def recsF : Nat → Bts → Option (List Tx)
  | 0, b => if b = [] then some [] else none
  | f + 1, b => if b = [] then some [] else match recR b with
    | none => none
    | some (n, k, v) => (recsF f (b.drop n)).map fun r => k :: v :: r
/-- The keys and values of records. -/
def recsV (b : Bts) : Option (List Tx) := recsF b.length b

/-! ### what holds for the next member -/
structure Nx where
  is : Bool
  path : Option Tx
  link : Option Tx
  size : Option Nat
deriving DecidableEq
def nx0 : Nx := ⟨false, none, none, none⟩
def kPath : Tx := [112, 97, 116, 104]
def kLink : Tx := [108, 105, 110, 107, 112, 97, 116, 104]
def kSize : Tx := [115, 105, 122, 101]
def moreS (x : Nx) (k v : Tx) : Option Nx :=
  if k = kPath then some { x with path := some v } else if k = kLink then some { x with link := some v } else if k = kSize then
    match wholeV v 9 with
    | none => none
    | some n => if 262144 < n then none else some { x with size := some n }
  else some x
def moreF : Nx → List Tx → Option Nx
  | x, k :: v :: r => match moreS x k v with
    | none => none
    | some y => moreF y r
  | x, _ => some x
def moreV (l : List Tx) : Option Nx := moreF { nx0 with is := true } l
def withN (x : Nx) (h : Hd) : Hd := if h.kind = 120 ∨ h.kind = 103 then h else { h with name := x.path.getD h.name, link := x.link.getD h.link, size := (x.size.map Int.ofNat).getD h.size }

/-! ### entries -/
/-- Is a path under a file's or a link's? -/
def belowB (p : Tx) (o : En) : Bool := decide (o.kind ≠ 2) && underT p o.path && decide (p ≠ o.path)
def aboveB (k : UInt8) (p : Tx) (o : En) : Bool := decide (k ≠ 53) && underT o.path p && decide (p ≠ o.path)
def entK (h : Hd) (p : Tx) (data : Bts) : Option En × Int :=
  if h.kind = 53 then (some ⟨p, 2, h.mode, []⟩, 0) else if h.kind = 50 then
    (if (targetL p h.link).2 = 0 then (some ⟨p, 3, 511, 47 :: (targetL p h.link).1⟩, 0) else (none, 140))
  else (some ⟨p, 1, h.mode, data⟩, 0)
def entP (h : Hd) (p : Tx) (data : Bts) (out : List En) : Option En × Int :=
  if out.any (belowB p) = true then (none, 140) else if out.any (aboveB h.kind p) = true then (none, 140) else if out.any (fun o => decide (o.path = p)) = true then (none, 6) else entK h p data
/-- The entry of a member (none where there is none), and an error. -/
def entV (h : Hd) (data : Bts) (out : List En) : Option En × Int :=
  if (h.kind ≠ 48 ∧ h.kind ≠ 53 ∧ h.kind ≠ 50) ∨ (h.kind ≠ 48 ∧ 0 < h.size) ∨ 256 ≤ out.length then (none, 150) else
  if (cleanL h.name).2 ≠ 0 ∨ ((cleanL h.name).1 = [] ∧ h.kind ≠ 53) then (none, 140) else
  if (cleanL h.name).1 = [] then (none, 0) else entP h (cleanL h.name).1 data out

/-! ### an archive -/
def fullN (n : Int) : Nat := (n.toNat + 511) / 512 * 512
/-- Does the program, at the commit that this speaks of, ask that words that tell nothing be records? (The document asks it: a fault of 15.1 filed in round 16; false at 55b7e32a.) -/
def words103 : Bool := true
/-- What a member does: an error, or what holds from there on, what there is by then, how many bytes it has. -/
def stepV (x : Nx) (out : List En) (b : Bts) : Int ⊕ (Nx × List En × Nat) :=
  let h := withN x (parseV (b.take 512)).1
  let data := (b.drop 512).take h.size.toNat
  if (parseV (b.take 512)).2 ≠ 0 then .inl (parseV (b.take 512)).2 else
  if b.length < 512 + fullN h.size then .inl 7 else
  if h.kind = 103 then (if words103 = true ∧ recsV data = none then .inl 150 else .inr (x, out, 512 + fullN h.size))
  else if h.kind = 120 then (match recsV data with
    | none => .inl 150
    | some l => match moreV l with
      | none => .inl 150
      | some y => .inr (y, out, 512 + fullN h.size))
  else match entV h data out with
    | (none, z) => if z = 0 then .inr (nx0, out, 512 + fullN h.size) else .inl z
    | (some y, _) => .inr (nx0, out ++ [y], 512 + fullN h.size)
def readF : Nat → Nx → List En → Bts → List En × Int
  | 0, _, _, _ => ([], 7)
  | f + 1, x, out, b => if b.length < 512 then ([], 7) else if emptyV (b.take 512) = true then (if x.is = true then ([], 150) else (out, 0)) else
    match stepV x out b with
    | .inl z => ([], z)
    | .inr (y, l, n) => readF f y l (b.drop n)
/-- What is read of an archive. -/
def readV (b : Bts) : List En × Int := readF (b.length / 512 + 1) nx0 [] b

/-! ### within -/
structure OkE (e : En) : Prop where
  ok : okT e.path = true
  ne : e.path ≠ []
  low : 0 ≤ e.mode
  high : e.mode ≤ 4095
  kinds : e.kind = 1 ∨ e.kind = 2 ∨ e.kind = 3
  link : e.kind = 3 → ∃ t, e.data = 47 :: t ∧ okT t = true
/-- A later entry beside an earlier one. -/
structure Apart (e o : En) : Prop where
  ne : o.path ≠ e.path
  below : o.kind ≠ 2 → underT e.path o.path = false
  above : e.kind ≠ 2 → underT o.path e.path = false
structure Within (l : List En) : Prop where
  each : ∀ e ∈ l, OkE e
  two : ∀ (i k : Nat) (e o : En), l[i]? = some e → l[k]? = some o → k < i → Apart e o
  len : l.length ≤ 256
theorem Within.nil : Within [] := ⟨fun _ h => (by cases h), fun i k e o h => (by simp at h), by simp⟩
theorem Within.snoc {l : List En} {y : En} (h : Within l) (hy : OkE y) (ha : ∀ o ∈ l, Apart y o) (hl : l.length < 256) : Within (l ++ [y]) where
  each := fun e he => by
    rcases List.mem_append.1 he with h1 | h1
    · exact h.each e h1
    · rw [List.mem_singleton.1 h1]; exact hy
  two := fun i k e o hi hk hlt => by
    have hi2 : i < (l ++ [y]).length := (List.getElem?_eq_some_iff.1 hi).1
    rw [List.length_append, List.length_singleton] at hi2
    rw [List.getElem?_append_left (by omega)] at hk
    by_cases e1 : i < l.length
    · rw [List.getElem?_append_left e1] at hi
      exact h.two i k e o hi hk hlt
    · obtain rfl : i = l.length := by omega
      rw [List.getElem?_append_right (Nat.le_refl _), Nat.sub_self] at hi
      obtain rfl : y = e := by simpa using hi
      exact ha o (List.mem_of_getElem? hk)
  len := by rw [List.length_append, List.length_singleton]; omega
theorem any_no {out : List En} {p : En → Bool} (h : ¬ out.any p = true) {o : En} (ho : o ∈ out) : p o = false := by
  rw [Bool.not_eq_true, List.any_eq_false] at h
  simpa using h o ho
theorem ent_within {h : Hd} {data : Bts} {out : List En} {y : En} {z : Int} (he : entV h data out = (some y, z)) (h1 : 0 ≤ h.mode) (h2 : h.mode ≤ 4095) : OkE y ∧ (∀ o ∈ out, Apart y o) ∧ out.length < 256 ∧ z = 0 := by
  unfold entV at he
  split at he
  · cases he
  rename_i hn1
  split at he
  · cases he
  rename_i hn2
  split at he
  · cases he
  rename_i hn3
  have hl : out.length < 256 := by omega
  have hz : (cleanL h.name).2 = 0 := by
    by_cases e : (cleanL h.name).2 = 0
    · exact e
    · exact absurd (Or.inl e) hn2
  obtain ⟨p, hp⟩ : ∃ p, p = (cleanL h.name).1 := ⟨_, rfl⟩
  rw [← hp] at he hn3
  have hok : okT p = true := (clean_ok (show cleanL h.name = (p, 0) from Prod.ext hp.symm hz)).1
  unfold entP at he
  split at he
  · cases he
  rename_i hb
  split at he
  · cases he
  rename_i ha
  split at he
  · cases he
  rename_i hs
  have hpath : y.path = p ∧ z = 0 ∧ OkE y ∧ (y.kind = 2 ↔ h.kind = 53) := by
    unfold entK at he
    split at he
    · cases he
      rename_i hk
      exact ⟨rfl, rfl, ⟨hok, hn3, h1, h2, Or.inr (Or.inl rfl), fun e => absurd (show (2 : Int) = 3 from e) (by decide)⟩, by simp [hk]⟩
    · rename_i hk
      split at he
      · split at he
        · cases he
          rename_i hk2 ht
          refine ⟨rfl, rfl, ⟨hok, hn3, show (0 : Int) ≤ 511 by decide, show (511 : Int) ≤ 4095 by decide, Or.inr (Or.inr rfl), fun _ => ⟨_, rfl, ?_⟩⟩, by simp [hk]⟩
          exact (target_in (show targetL p h.link = ((targetL p h.link).1, 0) from Prod.ext rfl ht)).2.1
        · cases he
      · cases he
        exact ⟨rfl, rfl, ⟨hok, hn3, h1, h2, Or.inl rfl, fun e => absurd (show (1 : Int) = 3 from e) (by decide)⟩, by simp [hk]⟩
  obtain ⟨hy, hz0, hO, hkk⟩ := hpath
  refine ⟨hO, fun o ho => ?_, hl, hz0⟩
  have b1 := any_no hb ho
  have b2 := any_no ha ho
  have b3 := any_no hs ho
  have hne : o.path ≠ p := by simpa using b3
  refine ⟨by rw [hy]; exact hne, fun hk => ?_, fun hk => ?_⟩
  · rw [hy]
    unfold belowB at b1
    rw [decide_eq_true hk, decide_eq_true (show p ≠ o.path from fun e => hne e.symm)] at b1
    simpa using b1
  · rw [hy]
    unfold aboveB at b2
    have hk5 : h.kind ≠ 53 := fun e => hk (hkk.2 e)
    rw [decide_eq_true hk5, decide_eq_true (show p ≠ o.path from fun e => hne e.symm)] at b2
    simpa using b2
theorem ent_err {h : Hd} {data : Bts} {out : List En} {z : Int} (he : entV h data out = (none, z)) : z = 0 ∨ z = 150 ∨ z = 140 ∨ z = 6 := by
  unfold entV at he
  split at he
  · cases he; simp
  split at he
  · cases he; simp
  split at he
  · cases he; simp
  unfold entP at he
  split at he
  · cases he; simp
  split at he
  · cases he; simp
  split at he
  · cases he; simp
  unfold entK at he
  split at he
  · cases he
  split at he
  · split at he
    · cases he
    · cases he; simp
  · cases he
theorem with_mode (x : Nx) (h : Hd) : (withN x h).mode = h.mode := by
  unfold withN
  split <;> rfl
theorem step_within {x y : Nx} {out l : List En} {b : Bts} {n : Nat} (hw : Within out) (hs : stepV x out b = .inr (y, l, n)) : Within l ∧ 512 ≤ n := by
  unfold stepV at hs
  dsimp only at hs
  split at hs
  · cases hs
  rename_i hp
  split at hs
  · cases hs
  split at hs
  · split at hs
    · cases hs
    · cases hs; exact ⟨hw, by omega⟩
  split at hs
  · split at hs
    · cases hs
    · split at hs
      · cases hs
      · cases hs; exact ⟨hw, by omega⟩
  have hpw : ∃ h0, parseV (b.take 512) = (h0, 0) := ⟨(parseV (b.take 512)).1, Prod.ext rfl (by simpa using hp)⟩
  obtain ⟨h0, hp0⟩ := hpw
  obtain ⟨_, _, _, m1, m2, _⟩ := parse_within hp0
  split at hs
  · split at hs
    · cases hs; exact ⟨hw, by omega⟩
    · cases hs
  · rename_i he
    cases hs
    obtain ⟨a, b2, c, _⟩ := ent_within he (by rw [with_mode, hp0]; exact m1) (by rw [with_mode, hp0]; exact m2)
    exact ⟨hw.snoc a b2 c, by omega⟩
theorem read_within : ∀ {f : Nat} {x : Nx} {out l : List En} {b : Bts} {z : Int}, Within out → readF f x out b = (l, z) → (z = 0 ∧ Within l) ∨ (z ≠ 0 ∧ l = [])
  | 0, _, _, l, _, z, _, h => by cases h; exact Or.inr ⟨by decide, rfl⟩
  | f + 1, x, out, l, b, z, hw, h => by
    unfold readF at h
    split at h
    · cases h; exact Or.inr ⟨by decide, rfl⟩
    split at h
    · split at h
      · cases h; exact Or.inr ⟨by decide, rfl⟩
      · cases h; exact Or.inl ⟨rfl, hw⟩
    split at h
    · rename_i hs
      cases h
      refine Or.inr ⟨?_, rfl⟩
      unfold stepV at hs
      dsimp only at hs
      split at hs
      · rename_i hp; cases hs; exact hp
      split at hs
      · cases hs; decide
      split at hs
      · split at hs
        · cases hs; decide
        · cases hs
      split at hs
      · split at hs
        · cases hs; decide
        · split at hs
          · cases hs; decide
          · cases hs
      split at hs
      · split at hs
        · cases hs
        · cases hs; assumption
      · cases hs
    · rename_i hs
      exact read_within (step_within hw hs).1 h
theorem readV_within {b : Bts} {l : List En} {z : Int} (h : readV b = (l, z)) : (z = 0 ∧ Within l) ∨ (z ≠ 0 ∧ l = []) := read_within Within.nil h

/-! ### what is written -/
def restR (k v : Tx) : Tx := 32 :: (k ++ 61 :: (v ++ [10]))
/-- How many bytes a record with such a rest has, looked for from n on. -/
def lenF : Nat → Nat → Nat → Nat
  | 0, n, _ => n
  | f + 1, n, m => if (itoaV n).length + m = n then n else lenF f (n + 1) m
def lenR (m : Nat) : Nat := lenF 32 (m + 1) m
def recordV (k v : Tx) : Tx := itoaV (lenR (restR k v).length) ++ restR k v
def padN (n : Nat) : Nat := (512 - n % 512) % 512
def memberV (h : Hd) (data : Bts) : Option Bts := if (printV h).2 = 0 then some ((printV h).1 ++ data ++ List.replicate (padN data.length) 0) else none
def bareH (x : En) : Option Hd :=
  if x.kind = 1 then some ⟨x.path, [], x.mode, x.data.length, 48⟩ else if x.kind = 2 then some ⟨x.path ++ [47], [], x.mode, 0, 53⟩ else if x.kind = 3 then some ⟨x.path, x.data, x.mode, 0, 50⟩ else none
def longB (s : Tx) : Bool := decide ((printV ⟨s, [], 0, 0, 48⟩).2 ≠ 0)
def longL (s : Tx) : Bool := decide ((printV ⟨[97], s, 0, 0, 48⟩).2 ≠ 0)
def wordsV (h : Hd) : Tx := (if longB h.name = true then recordV kPath h.name else []) ++ (if longL h.link = true then recordV kLink h.link else [])
def cutH (h : Hd) : Hd := { h with name := if longB h.name = true then h.name.take 100 else h.name, link := if longL h.link = true then h.link.take 100 else h.link }
def paxH (n : Nat) : Hd := ⟨[112, 97, 120], [], 420, n, 120⟩
/-- An entry's members. -/
def entryV (x : En) : Option Bts := match bareH x with
  | none => none
  | some h => match (if wordsV h = [] then some [] else memberV (paxH (wordsV h).length) (wordsV h)), memberV (cutH h) (if x.kind = 1 then x.data else []) with
    | some a, some b => some (a ++ b)
    | _, _ => none
def bytesF : List En → Option Bts
  | [] => some (List.replicate 1024 0)
  | x :: r => match entryV x, bytesF r with
    | some a, some b => some (a ++ b)
    | _, _ => none
/-- What is written of entries. -/
def writeV (l : List En) : Bts × Int := match bytesF l with
  | none => ([], 2)
  | some b => if readV b = (l, 0) then (b, 0) else ([], 2)

/-! ### the chapter's examples -/
def exE : En := ⟨[97], 1, 420, [104, 105]⟩
theorem ex_record : recordV [112, 97, 116, 104] [97] = [57, 32, 112, 97, 116, 104, 61, 97, 10] := by decide +kernel
theorem ex_none : readV (List.replicate 1024 0) = ([], 0) := by decide +kernel
theorem ex_write : (writeV [exE]).2 = 0 ∧ (writeV [exE]).1.length = 2048 ∧ readV (writeV [exE]).1 = ([exE], 0) := by decide +kernel
end Go.Proofs.YtgimiggffpokpaaGreatDoor.ta
