/-
  Texts that belong together, joined: TeI TeJ.
-/
import Derived.Test.YtgimiggffpokpaaGreatDoorTeH
import Derived.Test.YtgimiggffpokpaaGreatDoorHfI

/-
  The program's take; its reader in memory, as a whole.
-/


namespace Go.Proofs.YtgimiggffpokpaaGreatDoor.ta
set_option maxRecDepth 100000
open Go.RowKit Go.Maps Go.Deep
open Go.Proofs.YtgimiggffpokpaaGreatDoor.pt (Tx tx tx_toL tx_size toL toL_len underT cleanL targetL OwnS ss)
open Go.Proofs.YtgimiggffpokpaaGreatDoor.he (Bts Hd hdV sV DT parseV emptyV parse_within)
set_option maxRecDepth 100000

set_option maxHeartbeats 2000000 in
theorem ptake_no (w : World) (R : Nat) (x0 x1 x3 : Value) (A : Option Addr) (n c k : Nat) (hb : w.heap[R]? = some (rdC x0 x1 (.slice A n c) x3)) (hk : n < k) :
    Calls Tryz.prog 18 #[.pointer (some ⟨R, 0, none⟩), .int .i64 (k : Int)] w fun e w' => e = .returned (.tuple #[.slice none 0 0, .bool false]) ∧ w = w' := by
  obtain ⟨_, _, r2, _, _, _, _, _⟩ := rd_cells hb
  have k1 : (n : Int) < (k : Int) := by omega
  clear hb hk
  go_enter Tryz.func18, Tryz.ntmps18
  go_wp2_with fail
  go_ret2
  exact ⟨rfl, rfl⟩
/-- What is left of a slice behind its first k. -/
abbrev restA (blk off c k : Nat) : Option Addr := if c = k then some ⟨blk, off, none⟩ else some ⟨blk, off + k, none⟩
set_option maxHeartbeats 4000000 in
theorem ptake_ok (w : World) (R : Nat) (x0 x1 x3 : Value) (blk off n c k : Nat) (hb : w.heap[R]? = some (rdC x0 x1 (.slice (some ⟨blk, off, none⟩) n c) x3)) (hk : k ≤ n) (hc : n ≤ c) :
    Calls Tryz.prog 18 #[.pointer (some ⟨R, 0, none⟩), .int .i64 (k : Int)] w fun e w' => e = .returned (.tuple #[.slice (some ⟨blk, off, none⟩) k c, .bool true]) ∧ w' = w.setCell ⟨R, 2, none⟩ (.slice (restA blk off c k) (n - k) (c - k)) := by
  obtain ⟨_, _, r2, _, _, _, f2, _⟩ := rd_cells hb
  have k1 : ¬ (n : Int) < (k : Int) := by omega
  have k2 : (0 : Int) ≤ (k : Int) := by omega
  have k3 : (k : Int) ≤ (n : Int) := by omega
  have k4 : (k : Int) ≤ (c : Int) := by omega
  have k5 : k ≤ c := by omega
  by_cases hck : c = k
  · have HE := Lib.hid (show w.setCell ⟨R, 2, none⟩ (.slice (some ⟨blk, off, none⟩) (n - k) (c - k)) = w.setCell ⟨R, 2, none⟩ (.slice (restA blk off c k) (n - k) (c - k)) from by unfold restA; rw [if_pos hck])
    obtain ⟨V, hV⟩ : ∃ V, V = w.setCell ⟨R, 2, none⟩ (.slice (restA blk off c k) (n - k) (c - k)) := ⟨_, rfl⟩
    rw [← hV] at HE ⊢
    subst hck
    obtain rfl : n = c := by omega
    clear hb hV hk hc
    go_enter Tryz.func18, Tryz.ntmps18
    go_wp2_with fail
    go_ret2
    have := HE.out
    simp only [Nat.sub_self] at this
    exact ⟨rfl, this⟩
  · have HE := Lib.hid (show w.setCell ⟨R, 2, none⟩ (.slice (some ⟨blk, off + k, none⟩) (n - k) (c - k)) = w.setCell ⟨R, 2, none⟩ (.slice (restA blk off c k) (n - k) (c - k)) from by unfold restA; rw [if_neg hck])
    obtain ⟨V, hV⟩ : ∃ V, V = w.setCell ⟨R, 2, none⟩ (.slice (restA blk off c k) (n - k) (c - k)) := ⟨_, rfl⟩
    rw [← hV] at HE ⊢
    clear hb hV hk hc
    go_enter Tryz.func18, Tryz.ntmps18
    go_wp2_with fail
    go_ret2
    exact ⟨rfl, HE.out⟩
theorem rest_rd {w : World} {B blk off c k : Nat} {l : Bts} (h : Rd w B (some ⟨blk, off, none⟩) l) (hc : l.length ≤ c) : Rd w B (restA blk off c k) (l.drop k) := by
  have := h.drop (k := k) hc
  unfold restA
  by_cases hck : c = k
  · rw [if_pos hck] at this ⊢; exact this
  · rw [if_neg hck] at this ⊢
    rw [← add_plain]
    exact this
theorem rest_some (blk off c k : Nat) : ∃ o, restA blk off c k = some ⟨blk, o, none⟩ := by
  unfold restA
  by_cases hck : c = k
  · exact ⟨off, by rw [if_pos hck]⟩
  · exact ⟨off + k, by rw [if_neg hck]⟩
/-- What the words that wait say. -/
def XW (lw : List Tx) (wt : Bool) (x : Nx) : Prop := (wt = false ∧ lw = [] ∧ x = nx0) ∨ (wt = true ∧ moreV lw = some x)
theorem moreF_is : ∀ (l : List Tx) (x y : Nx), moreF x l = some y → y.is = x.is
  | [], x, y, h => by unfold moreF at h; cases h; rfl
  | [a], x, y, h => by unfold moreF at h; cases h; rfl
  | a :: b :: r, x, y, h => by
    unfold moreF at h
    split at h
    · cases h
    · rename_i z hz
      rw [moreF_is r z y h]
      unfold moreS at hz
      split at hz
      · cases hz; rfl
      split at hz
      · cases hz; rfl
      split at hz
      · split at hz
        · cases hz
        · split at hz
          · cases hz
          · cases hz; rfl
      · cases hz; rfl
theorem XW.is {lw : List Tx} {wt : Bool} {x : Nx} (h : XW lw wt x) : x.is = wt := by
  rcases h with ⟨rfl, _, rfl⟩ | ⟨rfl, h⟩
  · rfl
  · exact moreF_is _ _ _ h
theorem XW.hold {lw : List Tx} {wt : Bool} {x : Nx} (h : XW lw wt x) (hd : Hd) : holdF hd lw = setN x hd := by
  rcases h with ⟨_, rfl, rfl⟩ | ⟨_, h⟩
  · rfl
  · exact hold_words hd h
/-- The program's reader: where it lies, what it has. -/
structure TR (w0 w : World) (R : Nat) (lw : List Tx) (wt : Bool) (A : Option Addr) (c : Nat) (b : Bts) (out : List En) (x : Nx) : Prop where
  fr : Fr (fun i => w0.heap.size ≤ i) w0 w
  le : w0.heap.size ≤ R
  st : ∃ Aw cw Ae ce, w.heap[R]? = some (rdC (.slice Aw lw.length cw) (.bool wt) (.slice A b.length c) (.slice Ae out.length ce)) ∧ OwnS w w0.heap.size (.slice Aw lw.length cw) lw ∧ OwnE w w0.heap.size (.slice Ae out.length ce) out ∧ (wt = false → Aw = none ∧ cw = 0)
  rd : Rd w w0.heap.size A b
  cap : b.length ≤ c
  xw : XW lw wt x
  ws : (∀ v ∈ lw, v.length ≤ 262144) ∧ lw.length ≤ 262144 ∧ lw.length % 2 = 0
  ol : out.length ≤ 256
  op : ∀ o ∈ out, o.path.length ≤ 1000
  cm : c ≤ maxLen
theorem DT.on {w0 w : World} (h : DT w0) (hF : Fr (fun i => w0.heap.size ≤ i) w0 w) : DT w := by
  have key : ∀ {a : Addr} {v : Value}, w0.cell? a = some v → w.cell? a = some v := fun {a v} hv =>
    (World.cell?_of_block (w := w0) (w' := w) (hF.block a.block (block_lt_of_cell hv) (fun e => by have := block_lt_of_cell hv; omega))).trans hv
  exact ⟨fun k a n hk => key (h.at_ k a n hk), key h.tz, fun k a n hk => key (h.len k a n hk)⟩
theorem low_kept {w0 w w' : World} {A : Option Addr} {l : Bts} (h : Rd w w0.heap.size A l) (h0 : w0.heap.size ≤ w.heap.size) (hF : Fr (fun i => w0.heap.size ≤ i) w w') : Rd w' w0.heap.size A l := h.kept hF h0 (fun i hi e => by omega)
section
variable {w0 w w' : World} {R c : Nat} {lw : List Tx} {wt : Bool} {A : Option Addr} {b : Bts} {out : List En} {x : Nx}
theorem TR.still (h : TR w0 w R lw wt A c b out x) (hF : Fr (fun _ => False) w w') : TR w0 w' R lw wt A c b out x := by
  obtain ⟨Aw, cw, Ae, ce, h1, h2, h3, h4⟩ := h.st
  exact ⟨h.fr.trans hF (fun _ _ e => e.elim), h.le, ⟨Aw, cw, Ae, ce, keep_blk h1 hF, OwnS.still h2 hF, h3.kept hF, h4⟩, h.rd.still hF h.fr.size, h.cap, h.xw, h.ws, h.ol, h.op, h.cm⟩
/-- The bytes that are left have moved on. -/
theorem TR.move (h : TR w0 w R lw wt A c b out x) {A' : Option Addr} {c' n' : Nat} {b' : Bts} (hn : n' = b'.length) (hr : Rd w w0.heap.size A' b') (hc : b'.length ≤ c') (hcm : c' ≤ maxLen) : TR w0 (w.setCell ⟨R, 2, none⟩ (.slice A' n' c')) R lw wt A' c' b' out x := by
  subst hn
  obtain ⟨Aw, cw, Ae, ce, h1, h2, h3, h4⟩ := h.st
  have hF : Fr (fun i => w0.heap.size ≤ i) w (w.setCell ⟨R, 2, none⟩ (.slice A' b'.length c')) := (Fr.refl _ w).setCell (p := ⟨R, 2, none⟩) (Or.inl h.le) _
  exact ⟨h.fr.trans hF (fun _ _ e => e), h.le, ⟨Aw, cw, Ae, ce, rd_set2 h1 _, own_set tSR h2 h1 2 _, own_set tER h3 h1 2 _, h4⟩, low_kept hr h.fr.size hF, hc, h.xw, h.ws, h.ol, h.op, hcm⟩
end
end Go.Proofs.YtgimiggffpokpaaGreatDoor.ta

/-
  The program's member: what is needed of its reader.
-/
namespace Go.Proofs.YtgimiggffpokpaaGreatDoor.ta
set_option maxRecDepth 100000
open Go.RowKit Go.Maps Go.Deep
open Go.Proofs.YtgimiggffpokpaaGreatDoor.pt (Tx tx tx_toL tx_size toL toL_len underT cleanL targetL OwnS RdS ss)
open Go.Proofs.YtgimiggffpokpaaGreatDoor.he (Bts Hd hdV sV DT parseV emptyV parse_within five_set)
set_option maxRecDepth 100000

theorem tSH : (9 : TypeId) ≠ 57 := by decide
theorem tEH : (30 : TypeId) ≠ 57 := by decide
theorem tRH : (41 : TypeId) ≠ 57 := by decide
theorem own_fr {w w' : World} {base n size : Nat} {t : TypeId} {v : Value} {xs : List Value} {S : Nat → Prop} (h : w.ownsRow base t size v n xs) (hF : Fr S w w') (hS : ∀ q, v.ownBlock = some q → ¬ S q) : w'.ownsRow base t size v n xs := by
  obtain ⟨h1, h2⟩ := h
  refine ⟨h1, ?_⟩
  rcases h2 with h2 | ⟨q, cap, cur, rfl, hb, hh, r⟩
  · exact Or.inl h2
  · exact Or.inr ⟨q, cap, cur, rfl, hb, (hF.block q (Array.getElem?_eq_some_iff.1 hh).1 (hS q rfl)).trans hh, r⟩
section
variable {w0 w w2 : World} {R c : Nat} {lw : List Tx} {wt : Bool} {A : Option Addr} {b : Bts} {out : List En} {x : Nx}
/-- The words are used up. -/
theorem TR.used (h : TR w0 w R lw wt A c b out x) {v0 v1 : Value} {Ae : Option Addr} {ce : Nat} (h1 : w.heap[R]? = some (rdC v0 v1 (.slice A b.length c) (.slice Ae out.length ce))) (h3 : OwnE w w0.heap.size (.slice Ae out.length ce) out)
    (hF : Fr (fun i => i = R) w w2) (hb : w2.heap[R]? = some (rdC (.slice none 0 0) (.bool false) (.slice A b.length c) (.slice Ae out.length ce))) : TR w0 w2 R [] false A c b out nx0 := by
  have hne := own_ne tER h3 h1
  have hFB : Fr (fun i => w0.heap.size ≤ i) w w2 := hF.mono (fun i _ e => by have := h.le; show w0.heap.size ≤ i; rw [show i = R from e]; exact this)
  exact ⟨h.fr.trans hFB (fun _ _ e => e), h.le, ⟨none, 0, Ae, ce, hb, World.ownsRow_nil w2 w0.heap.size 9 1, own_fr h3 hF (fun q hq e => hne q hq e), fun _ => ⟨rfl, rfl⟩⟩, low_kept h.rd h.fr.size hFB, h.cap, Or.inl ⟨rfl, rfl, rfl⟩, ⟨fun v hv => (by cases hv), Nat.zero_le _, rfl⟩, h.ol, h.op, h.cm⟩
/-- New words hold. -/
theorem TR.told (h : TR w0 w R lw wt A c b out x) {v0 v1 : Value} {Ae : Option Addr} {ce : Nat} (h1 : w.heap[R]? = some (rdC v0 v1 (.slice A b.length c) (.slice Ae out.length ce))) (h3 : OwnE w w0.heap.size (.slice Ae out.length ce) out)
    (hF : Fr (fun i => i = R) w w2) {L : List Tx} {y : Nx} {Al : Option Addr} {cl : Nat} (hb : w2.heap[R]? = some (rdC (.slice Al L.length cl) (.bool true) (.slice A b.length c) (.slice Ae out.length ce))) (hO : OwnS w2 w.heap.size (.slice Al L.length cl) L) (hm : moreV L = some y)
    (hL : (∀ v ∈ L, v.length ≤ 262144) ∧ L.length ≤ 262144 ∧ L.length % 2 = 0) : TR w0 w2 R L true A c b out y := by
  have hne := own_ne tER h3 h1
  have hFB : Fr (fun i => w0.heap.size ≤ i) w w2 := hF.mono (fun i _ e => by have := h.le; show w0.heap.size ≤ i; rw [show i = R from e]; exact this)
  have hO2 : w2.ownsRow w0.heap.size 9 1 (.slice Al L.length cl) L.length (ss L) := by
    obtain ⟨a, b⟩ := hO
    refine ⟨a, ?_⟩
    rcases b with b | ⟨q, cap, cur, e, hb, r⟩
    · exact Or.inl b
    · exact Or.inr ⟨q, cap, cur, e, Nat.le_trans h.fr.size hb, r⟩
  exact ⟨h.fr.trans hFB (fun _ _ e => e), h.le, ⟨Al, cl, Ae, ce, hb, hO2, own_fr h3 hF (fun q hq e => hne q hq e), fun e => (by cases e)⟩, low_kept h.rd h.fr.size hFB, h.cap, Or.inr ⟨rfl, hm⟩, hL, h.ol, h.op, h.cm⟩
/-- A header's variable is written. -/
theorem TR.cell (h : TR w0 w R lw wt A c b out x) {g : Nat} {cs : Array Value} (hg : w.heap[g]? = some (.cells cs 57 (0, 0))) (h0 : w0.heap.size ≤ g) (k : Nat) (v : Value) : TR w0 (w.setCell ⟨g, k, none⟩ v) R lw wt A c b out x := by
  obtain ⟨Aw, cw, Ae, ce, h1, h2, h3, h4⟩ := h.st
  have hF : Fr (fun i => w0.heap.size ≤ i) w (w.setCell ⟨g, k, none⟩ v) := (Fr.refl _ w).setCell (p := ⟨g, k, none⟩) (Or.inl h0) _
  have hgR : R ≠ g := by
    rintro rfl
    rw [h1] at hg
    injection hg with e
    injection e with _ e2
    exact tRH e2
  exact ⟨h.fr.trans hF (fun _ _ e => e), h.le, ⟨Aw, cw, Ae, ce, by rw [Below.heap_setCell _ _ _ _ hgR]; exact h1, own_set tSH h2 hg k v, own_set tEH h3 hg k v, h4⟩, low_kept h.rd h.fr.size hF, h.cap, h.xw, h.ws, h.ol, h.op, h.cm⟩
theorem TR.five (h : TR w0 w R lw wt A c b out x) {g : Nat} {a0 a1 a2 a3 a4 x0 x1 x2 x3 x4 : Value} (hg : w.heap[g]? = some (.cells #[a0, a1, a2, a3, a4] 57 (0, 0))) (h0 : w0.heap.size ≤ g) :
    TR w0 (((((w.setCell ⟨g, 0, none⟩ x0).setCell ⟨g, 1, none⟩ x1).setCell ⟨g, 2, none⟩ x2).setCell ⟨g, 3, none⟩ x3).setCell ⟨g, 4, none⟩ x4) R lw wt A c b out x :=
  ((((h.cell hg h0 0 x0).cell (rd_set hg 0 x0) h0 1 x1).cell (rd_set (rd_set hg 0 x0) 1 x1) h0 2 x2).cell (rd_set (rd_set (rd_set hg 0 x0) 1 x1) 2 x2) h0 3 x3).cell (rd_set (rd_set (rd_set (rd_set hg 0 x0) 1 x1) 2 x2) 3 x3) h0 4 x4
theorem TR.ne_head (h : TR w0 w R lw wt A c b out x) {g : Nat} {cs : Array Value} (hg : w.heap[g]? = some (.cells cs 57 (0, 0))) : R ≠ g := by
  obtain ⟨Aw, cw, Ae, ce, h1, _, _, _⟩ := h.st
  rintro rfl
  rw [h1] at hg
  injection hg with e
  injection e with _ e2
  exact tRH e2
/-- An entry has come, or none. -/
theorem TR.enter (h : TR w0 w R lw wt A c b out x)
    {r : Option En × Int} {e : Ending} (hr : ∀ y, r.1 = some y → y.path.length ≤ 1000 ∧ out.length < 256) (hE : EnA w w0.heap.size R (.slice none 0 0) (.bool false) (.slice A b.length c) out r e w2) : TR w0 w2 R [] false A c b (outR out r.1) nx0 := by
  obtain ⟨_, hF, A', c', hb, hO⟩ := hE
  refine ⟨h.fr.trans hF (fun _ _ e => e), h.le, ⟨none, 0, A', c', hb, World.ownsRow_nil w2 w0.heap.size 9 1, hO, fun _ => ⟨rfl, rfl⟩⟩, low_kept h.rd h.fr.size hF, h.cap, Or.inl ⟨rfl, rfl, rfl⟩, ⟨fun v hv => (by cases hv), Nat.zero_le _, rfl⟩, ?_, ?_, h.cm⟩
  · cases hr1 : r.1 with
    | none => exact h.ol
    | some y =>
      have := (hr y hr1).2
      show (out ++ [y]).length ≤ 256
      rw [List.length_append, List.length_singleton]
      omega
  · cases hr1 : r.1 with
    | none => exact h.op
    | some y =>
      intro o ho
      rcases List.mem_append.1 ho with k | k
      · exact h.op o k
      · rw [List.mem_singleton.1 k]; exact (hr y hr1).1
end
/-- Bounds of what words say. -/
structure BdN (x : Nx) : Prop where
  path : ∀ v, x.path = some v → v.length ≤ 262144
  link : ∀ v, x.link = some v → v.length ≤ 262144
  size : ∀ n, x.size = some n → n ≤ 262144
theorem bd_nx0 : BdN nx0 := ⟨fun v h => (by cases h), fun v h => (by cases h), fun n h => (by cases h)⟩
theorem more_bd : ∀ (l : List Tx) (x y : Nx), (∀ v ∈ l, v.length ≤ 262144) → BdN x → moreF x l = some y → BdN y
  | [], x, y, _, hx, h => by unfold moreF at h; cases h; exact hx
  | [a], x, y, _, hx, h => by unfold moreF at h; cases h; exact hx
  | a :: b :: r, x, y, hl, hx, h => by
    unfold moreF at h
    split at h
    · cases h
    · rename_i z hz
      have hb := hl b (by simp)
      refine more_bd r z y (fun v hv => hl v (by simp [hv])) ?_ h
      unfold moreS at hz
      split at hz
      · cases hz
        exact ⟨fun v e => by cases e; exact hb, hx.link, hx.size⟩
      split at hz
      · cases hz
        exact ⟨hx.path, fun v e => by cases e; exact hb, hx.size⟩
      split at hz
      · split at hz
        · cases hz
        · split at hz
          · cases hz
          · cases hz
            exact ⟨hx.path, hx.link, fun n e => by cases e; omega⟩
      · cases hz; exact hx
theorem XW.bd {lw : List Tx} {wt : Bool} {x : Nx} (h : XW lw wt x) (hl : ∀ v ∈ lw, v.length ≤ 262144) : BdN x := by
  rcases h with ⟨_, _, rfl⟩ | ⟨_, h⟩
  · exact bd_nx0
  · exact more_bd lw { nx0 with is := true } x hl ⟨fun v h => (by cases h), fun v h => (by cases h), fun n h => (by cases h)⟩ h
/-- The header by the words: its bounds. -/
theorem with_bd {x : Nx} (hx : BdN x) {h : Hd} (h1 : h.name.length ≤ 256) (h2 : h.link.length ≤ 100) (h3 : 0 ≤ h.size) (h4 : h.size ≤ 262144) : (withN x h).name.length ≤ 262144 ∧ (withN x h).link.length ≤ 262144 ∧ 0 ≤ (withN x h).size ∧ (withN x h).size ≤ 262144 ∧ (withN x h).kind = h.kind ∧ (withN x h).mode = h.mode := by
  unfold withN
  split
  · exact ⟨by omega, by omega, h3, h4, rfl, rfl⟩
  · refine ⟨?_, ?_, ?_, ?_, rfl, rfl⟩
    · cases e : x.path with
      | none => show h.name.length ≤ _; omega
      | some v => exact hx.path v e
    · cases e : x.link with
      | none => show h.link.length ≤ _; omega
      | some v => exact hx.link v e
    · cases e : x.size with
      | none => exact h3
      | some n => show (0 : Int) ≤ Int.ofNat n; exact Int.natCast_nonneg n
    · cases e : x.size with
      | none => exact h4
      | some n => have := hx.size n e; show (Int.ofNat n) ≤ 262144; rw [Int.ofNat_eq_natCast]; omega
theorem entV_link {h : Hd} (hk : h.kind = 50) (m : Int) (data : Bts) (out : List En) : entV { h with mode := m } data out = entV h data out := by
  unfold entV entP entK
  simp only [hk]
  rfl
theorem entV_some {h : Hd} {data : Bts} {out : List En} (h1 : 0 ≤ h.mode) (h2 : h.mode ≤ 4095) : ∀ y, (entV h data out).1 = some y → y.path.length ≤ 1000 ∧ out.length < 256 := fun y hy => by
  obtain ⟨a, b, c, d⟩ := ent_within (show entV h data out = (some y, (entV h data out).2) from Prod.ext hy rfl) h1 h2
  have := pt.okT_len a.ok
  exact ⟨by omega, c⟩
theorem entV_zero {h : Hd} {data : Bts} {out : List En} {y : En} {z : Int} (he : entV h data out = (some y, z)) : z = 0 := by
  unfold entV at he
  split at he
  · cases he
  split at he
  · cases he
  split at he
  · cases he
  unfold entP at he
  split at he
  · cases he
  split at he
  · cases he
  split at he
  · cases he
  unfold entK at he
  split at he
  · cases he; rfl
  split at he
  · split at he
    · cases he; rfl
    · cases he
  · cases he; rfl
/-- What member answers and leaves. -/
def MbA (w0 : World) (R : Nat) (x : Nx) (out : List En) (b : Bts) (e : Ending) (w' : World) : Prop :=
  (∃ z, stepV x out b = .inl z ∧ e = .returned (.int .i64 z) ∧ Fr (fun i => w0.heap.size ≤ i) w0 w') ∨
  (∃ y l n, stepV x out b = .inr (y, l, n) ∧ e = .returned (.int .i64 0) ∧ ∃ lw wt A c, TR w0 w' R lw wt A c (b.drop n) l y)
theorem stepV_of {x : Nx} {out : List En} {b : Bts} {h0 h : Hd} {z0 : Int} (hp : parseV (b.take 512) = (h0, z0)) (hh : h = withN x h0) {rest data : Bts} (hr : rest = b.drop 512) (hd : data = rest.take h.size.toNat) {f : Nat} (hf : f = fullN h.size) (hb : 512 ≤ b.length) :
    stepV x out b = if z0 ≠ 0 then .inl z0 else if rest.length < f then .inl 7 else
      if h.kind = 103 then (if words103 = true ∧ recsV data = none then .inl 150 else .inr (x, out, 512 + f)) else
      if h.kind = 120 then (match recsV data with
        | none => .inl 150
        | some l => match moreV l with
          | none => .inl 150
          | some y => .inr (y, out, 512 + f))
      else match entV h data out with
        | (none, z) => if z = 0 then .inr (nx0, out, 512 + f) else .inl z
        | (some y, _) => .inr (nx0, out ++ [y], 512 + f) := by
  have hl : rest.length = b.length - 512 := by rw [hr, List.length_drop]
  unfold stepV
  rw [hp]
  dsimp only
  rw [← hh, ← hr, ← hd, ← hf]
  by_cases hz : z0 ≠ 0
  · rw [if_pos hz, if_pos hz]
  rw [if_neg hz, if_neg hz]
  by_cases hs : rest.length < f
  · rw [if_pos hs, if_pos (by omega)]
  · rw [if_neg hs, if_neg (by omega)]
    rfl
end Go.Proofs.YtgimiggffpokpaaGreatDoor.ta
