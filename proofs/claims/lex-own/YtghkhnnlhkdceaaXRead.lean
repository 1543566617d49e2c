/-
  Lines of commands: the reader in memory.
-/
import Derived.Test.YtghkhnnlhkdceaaXStr
import Derived.Test.YtghkhnnlhkdceaaXPure
import Derived.Test.YtghkhnnlhkdceaaShelf
namespace Go.Proofs.Ytghkhnnlhkdceaa
open Go.RowKit
set_option linter.unusedVariables false
set_option maxRecDepth 20000

def strV (l : List UInt8) : Value := .string (str l)
/-- A row of words. -/
def StrRow (w : World) (B : Nat) (v : Value) (c : List (List UInt8)) : Prop := w.ownsRow B 9 1 v c.length (c.map strV)
theorem StrRow.keep {w w' : World} {B : Nat} {v : Value} {c : List (List UInt8)} (h : StrRow w B v c) (hk : ∀ g cur, v.ownBlock = some g → w.heap[g]? = some (.cells cur 9 (0, 0)) → w'.heap[g]? = w.heap[g]?) : StrRow w' B v c := by
  refine ⟨h.1, ?_⟩
  rcases h.2 with h0 | ⟨g, cap, cur, rfl, hb, hg, r⟩
  · exact .inl h0
  · exact .inr ⟨g, cap, cur, rfl, hb, (hk g cur rfl hg).trans hg, r⟩
theorem StrRow.base {w : World} {B B' : Nat} {v : Value} {c : List (List UInt8)} (h : StrRow w B v c) (hB : B' ≤ B) : StrRow w B' v c := by
  refine ⟨h.1, ?_⟩
  rcases h.2 with h0 | ⟨g, cap, cur, e, hb, r⟩
  · exact .inl h0
  · exact .inr ⟨g, cap, cur, e, Nat.le_trans hB hb, r⟩
theorem StrRow.lt {w : World} {B : Nat} {v : Value} {c : List (List UInt8)} (h : StrRow w B v c) : ∀ g, v.ownBlock = some g → g < w.heap.size := fun g hg => (World.ownsRow.lt h g hg).2
/-- The commands that are there: rows of words, one made behind the other. -/
inductive Rows2 (w : World) (lo : Nat) : List Value → List (List (List UInt8)) → Nat → Prop
  | nil (hi : Nat) : lo ≤ hi → Rows2 w lo [] [] hi
  | snoc (vs : List Value) (cs : List (List (List UInt8))) (mid hi : Nat) (v : Value) (c : List (List UInt8)) : Rows2 w lo vs cs mid → StrRow w mid v c → (∀ g, v.ownBlock = some g → g < hi) → mid ≤ hi → Rows2 w lo (vs ++ [v]) (cs ++ [c]) hi
theorem Rows2.keep {w w' : World} {lo : Nat} {vs : List Value} {cs : List (List (List UInt8))} {hi : Nat} (h : Rows2 w lo vs cs hi) (hk : ∀ g cur, g < hi → w.heap[g]? = some (.cells cur 9 (0, 0)) → w'.heap[g]? = w.heap[g]?) : Rows2 w' lo vs cs hi := by
  induction h with
  | nil hi h0 => exact .nil hi h0
  | snoc vs cs mid hi v c _ hv hlt hle ih =>
    exact .snoc vs cs mid hi v c (ih fun g cur hg => hk g cur (by omega)) (hv.keep fun g cur hg => hk g cur (hlt g hg)) hlt hle
theorem Rows2.up {w : World} {lo : Nat} {vs : List Value} {cs : List (List (List UInt8))} {hi hi' : Nat} (h : Rows2 w lo vs cs hi) (hle : hi ≤ hi') : Rows2 w lo vs cs hi' := by
  cases h with
  | nil _ h0 => exact .nil hi' (Nat.le_trans h0 hle)
  | snoc vs cs mid _ v c h1 hv hlt hle' => exact .snoc vs cs mid hi' v c h1 hv (fun g hg => Nat.lt_of_lt_of_le (hlt g hg) hle) (Nat.le_trans hle' hle)
theorem Rows2.length {w : World} {lo : Nat} {vs : List Value} {cs : List (List (List UInt8))} {hi : Nat} (h : Rows2 w lo vs cs hi) : vs.length = cs.length := by
  induction h with
  | nil hi h0 => rfl
  | snoc vs cs mid hi v c _ hv hlt hle ih => simp [ih]

/-- The reader, part by part. -/
structure RdP (w0 w : World) (b : Nat) (s : ByteArray) (p : Nat) (l : List UInt8) (cmd : List (List UInt8)) (cmds : List (List (List UInt8))) (n : Nat) (ad buf vc vcs : Value) (vs : List Value) (Bc : Nat) : Prop where
  bld : BuilderIn w w0.heap.size b 2 40 #[.string s, .int .i64 p, ad, buf, vc, vcs, .int .i64 n] buf l
  emp : l = [] → buf = .slice none 0 0
  cmd : StrRow w Bc vc cmd
  lo : w0.heap.size ≤ Bc
  hi : Bc ≤ w.heap.size
  row : w.ownsRow w0.heap.size 29 1 vcs cmds.length vs
  rows : Rows2 w w0.heap.size vs cmds Bc
  at_ : p ≤ s.size
  below : Below w0.heap.size w0 w
  blk : w0.heap.size ≤ b
def Rd (w0 w : World) (b : Nat) (s : ByteArray) (p : Nat) (l : List UInt8) (cmd : List (List UInt8)) (cmds : List (List (List UInt8))) (n : Nat) : Prop := ∃ ad buf vc vcs vs Bc, RdP w0 w b s p l cmd cmds n ad buf vc vcs vs Bc

theorem row24_keep {w w' : World} {B : Nat} {v : Value} {k : Nat} {vs : List Value} (h : w.ownsRow B 29 1 v k vs) (hk : ∀ g cur, v.ownBlock = some g → w.heap[g]? = some (.cells cur 29 (0, 0)) → w'.heap[g]? = w.heap[g]?) : w'.ownsRow B 29 1 v k vs := by
  refine ⟨h.1, ?_⟩
  rcases h.2 with h0 | ⟨g, cap, cur, rfl, hb, hg, r⟩
  · exact .inl h0
  · exact .inr ⟨g, cap, cur, rfl, hb, (hk g cur rfl hg).trans hg, r⟩

theorem same_ty {w : World} {g : Nat} {cs ds : Array Value} {t u : TypeId} (h : w.heap[g]? = some (.cells cs t (0, 0))) (k : w.heap[g]? = some (.cells ds u (0, 0))) : t = u := by
  rw [h] at k
  simp only [Option.some.injEq, Obj.cells.injEq] at k
  exact k.2.1
/-- The reader's own block and its buffer turn, nothing else. -/
theorem RdP.turn {w0 w w' : World} {b : Nat} {s : ByteArray} {p p' : Nat} {l l' : List UInt8} {cmd : List (List UInt8)} {cmds : List (List (List UInt8))} {n n' : Nat} {ad buf vc vcs ad' buf' : Value} {vs : List Value} {Bc : Nat} (h : RdP w0 w b s p l cmd cmds n ad buf vc vcs vs Bc) (hB : But (b :: buf.ownBlock.toList) w w') (hb : BuilderIn w' w0.heap.size b 2 40 #[.string s, .int .i64 p', ad', buf', vc, vcs, .int .i64 n'] buf' l') (he : l' = [] → buf' = .slice none 0 0) (hp : p' ≤ s.size) : Rd w0 w' b s p' l' cmd cmds n' := by
  have h5 : ∀ (g : Nat) (cur : Array Value), w.heap[g]? = some (Obj.cells cur 9 (0, 0)) ∨ w.heap[g]? = some (Obj.cells cur 29 (0, 0)) → w'.heap[g]? = w.heap[g]? := fun g cur hg => by
    have hlt : g < w.heap.size := by rcases hg with hg | hg <;> exact lt_block hg
    refine hB.block g hlt fun hm => ?_
    rcases List.mem_cons.1 hm with e | e
    · subst e
      rcases hg with hg | hg
      · exact absurd (same_ty hg h.bld.blk) (by decide)
      · exact absurd (same_ty hg h.bld.blk) (by decide)
    · have hob : buf.ownBlock = some g := by simpa using e
      rcases h.bld.own.2 with ⟨e2, _⟩ | ⟨g', cap, cur', e2, _, hg', _⟩
      · rw [e2] at hob; cases hob
      · rw [e2] at hob
        cases hob
        rcases hg with hg | hg
        · exact absurd (same_ty hg hg') (by decide)
        · exact absurd (same_ty hg hg') (by decide)
  refine ⟨ad', buf', vc, vcs, vs, Bc, hb, he, h.cmd.keep fun g cur _ hg => h5 g cur (.inl hg), h.lo, Nat.le_trans h.hi hB.size, row24_keep h.row fun g cur _ hg => h5 g cur (.inr hg), h.rows.keep fun g cur _ hg => h5 g cur (.inl hg), hp, ?_, h.blk⟩
  refine hB.under h.below h.below.size fun k hk => ?_
  rcases List.mem_cons.1 hk with e | e
  · rw [e]; exact h.blk
  · exact h.bld.own.base k (by simpa using e)

end Go.Proofs.Ytghkhnnlhkdceaa
