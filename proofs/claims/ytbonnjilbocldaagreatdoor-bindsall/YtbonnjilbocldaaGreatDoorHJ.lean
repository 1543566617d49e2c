/-
  Binds: Names.
  Binds: Names, the walk.
-/
import Derived.Test.YtbonnjilbocldaaGreatDoorHI
import Derived.Test.YtbonnjilbocldaaGreatDoorShelfS
import Derived.Sort.OwnSorted
namespace Go.Proofs.YtbonnjilbocldaaGreatDoor
open Go.RowKit Go.Sort Go.Maps
set_option linter.unusedVariables false
set_option maxRecDepth 100000

/-- A list of texts that is one's own. -/
def NamsAt (w : World) (B : Nat) (v : Value) (l : List ByteArray) : Prop := w.ownsRow B 9 1 v l.length (l.map Value.string)
theorem NamsAt.nil (w : World) (B : Nat) : NamsAt w B (.slice none 0 0) [] := World.ownsRow_nil w B _ _
theorem NamsAt.keep {w w' : World} {B : Nat} {v : Value} {l : List ByteArray} (h : NamsAt w B v l) (hk : ∀ g, v.ownBlock = some g → w'.heap[g]? = w.heap[g]?) : NamsAt w' B v l := by
  refine ⟨h.1, ?_⟩
  rcases h.2 with h0 | ⟨g, cap, cur, rfl, hb, hg, r⟩
  · exact .inl h0
  · exact .inr ⟨g, cap, cur, rfl, hb, (hk g rfl).trans hg, r⟩
theorem NamsAt.blk {w : World} {B : Nat} {v : Value} {l : List ByteArray} (h : NamsAt w B v l) {g : Nat} (hg : v.ownBlock = some g) : B ≤ g ∧ ∃ cur, w.heap[g]? = some (.cells cur 9 (0, 0)) := by
  rcases h.2 with ⟨e, _⟩ | ⟨g', cap, cur, e, hb, hk, _⟩
  · rw [e] at hg; cases hg
  · rw [e] at hg; cases hg
    exact ⟨hb, cur, hk⟩
theorem NamsAt.below {w w' : World} {B : Nat} {v : Value} {l : List ByteArray} (h : NamsAt w B v l) (hb : Below w.heap.size w w') : NamsAt w' B v l := h.keep fun g hg => by
  obtain ⟨_, cur, hk⟩ := h.blk hg
  exact hb.block g (lt_block hk)
theorem infoStrN : (Tryz.prog.info? 9).map (fun i => (i.zero, i.size, i.bytes)) = some (some (.string ⟨#[]⟩), 1, 16) := by kernel_rfl
theorem underStrs : Tryz.prog.underlying 55 = some (.slice 9) := by kernel_rfl
/-- A list of texts that can be read. -/
def SeeN (w : World) (v : Value) (l : List ByteArray) : Prop := ∃ ad cp, v = .slice ad l.length cp ∧ (l ≠ [] → ∃ g o, ad = some ⟨g, o, none⟩ ∧ ∀ j (hj : j < l.length), w.cell? ⟨g, o + j, none⟩ = some (.string l[j]))
theorem SeeN.below {w w' : World} {v : Value} {l : List ByteArray} (h : SeeN w v l) (hb : Below w.heap.size w w') : SeeN w' v l := by
  obtain ⟨a, c, rfl, hc⟩ := h
  refine ⟨a, c, rfl, fun hne => ?_⟩
  obtain ⟨g, o, rfl, hcell⟩ := hc hne
  refine ⟨g, o, rfl, fun j hj => ?_⟩
  have h1 := hcell j hj
  exact (hb.cell (World.block_lt_of_cell? w _ h1)).trans h1
theorem NamsAt.see {w : World} {B : Nat} {v : Value} {l : List ByteArray} (h : NamsAt w B v l) : SeeN w v l := by
  rcases h.2 with ⟨e, h0⟩ | ⟨g, cap, cur, e, hb, hk, h1, h2, h3, h4⟩
  · have : l = [] := List.length_eq_zero_iff.1 h0
    subst this
    exact ⟨_, _, e, fun h => absurd rfl h⟩
  · subst e
    refine ⟨_, _, rfl, fun _ => ⟨g, 0, rfl, fun j hj => ?_⟩⟩
    have := World.ownsRow.cells h (g := g) rfl j (.string l[j]) (by simp)
    rw [addB, Nat.zero_add] at this
    rw [Nat.zero_add]
    exact this
/-- A text is appended. -/
theorem wpList_append_nam (w : World) {ops : Array Oper} {rest : List Oper} {o : Oper} {a : Act} {Q : Exit → Act → World → Prop} (hgd : o.guard = none) (s x : Operand)
    (ho : o.op = .call { callee := .builtin .append, args := #[s, x], argTypes := #[55, 55] })
    (B : Nat) (v : Value) (l : List ByteArray) (hs : a.eval s = v) (hown : NamsAt w B v l) (G : Nat) (e : ByteArray) (hx : a.eval x = .slice (some ⟨G, 0, none⟩) 1 1) (hG : w.heap[G]? = some (.cells #[.string e] 9 (0, 0)))
    (hlen : l.length ≤ 20000000) (hbase : B ≤ w.heap.size)
    (h : ∀ v' w', NamsAt w' B v' (l ++ [e]) → w.grownBy w' v.ownBlock → wpList Tryz.prog ops Q rest (a.put o.dst v') w') : wpList Tryz.prog ops Q (o :: rest) a w := by
  obtain ⟨i0, hi, hz0, hz1, hz2⟩ := info_parts infoStrN
  refine wpList_append_own w hgd s x 55 ho B 9 i0 (.string ⟨#[]⟩) 1 16 underStrs hi hz0 hz1 hz2 rfl (by decide) v l.length (l.map Value.string) hs hown ⟨G, 0, none⟩ 1 1 [.string e] hx rfl ?_ ?_ (by unfold maxLen; omega) (by omega) hbase ?_
  · intro j u hu
    rw [addB, Nat.zero_add, cell_at hG j]
    match j, hu with
    | 0, hu => exact hu
    | j + 1, hu => simp at hu
  · intro u hu
    simp only [List.mem_singleton] at hu
    subst hu
    rfl
  · intro v' w' h2 h3 _
    refine h v' w' ?_ h3
    unfold NamsAt
    rw [List.length_append, List.map_append]
    simpa using h2
def bytesOf (l : List ByteArray) : List (List UInt8) := l.map fun t => t.data.toList
theorem bytes_enc (l : List ByteArray) : (bytesOf l).map encStr = l.map Value.string := by
  unfold bytesOf
  rw [List.map_map]
  rfl
theorem le_lt {a b : List UInt8} (h : a ≤ b) (hn : a ≠ b) : a < b := by
  by_cases q : a < b
  · exact q
  · exact absurd (List.le_antisymm h (List.not_lt.1 q)) hn
/-- Texts, sorted. -/
theorem sorted_names (l : List ByteArray) (hn : l.Pairwise fun a b => a ≠ b) : ∃ l' : List ByteArray, l'.Perm l ∧ l'.Pairwise nameLt ∧ bytesOf l' = (bytesOf l).mergeSort fun x y => decide (x ≤ y) := by
  refine ⟨((bytesOf l).mergeSort fun x y => decide (x ≤ y)).map fun b => ⟨b.toArray⟩, ?_, ?_, ?_⟩
  · have h1 : (((bytesOf l).mergeSort fun x y => decide (x ≤ y)).map fun b => (⟨b.toArray⟩ : ByteArray)).Perm ((bytesOf l).map fun b => ⟨b.toArray⟩) := (List.mergeSort_perm _ _).map _
    have h2 : ((bytesOf l).map fun b => (⟨b.toArray⟩ : ByteArray)) = l := by unfold bytesOf; rw [List.map_map]; exact List.map_id' l
    rw [h2] at h1
    exact h1
  · rw [List.pairwise_map]
    have h1 : ((bytesOf l).mergeSort fun x y => decide (x ≤ y)).Pairwise fun x y => (decide (x ≤ y)) = true := List.pairwise_mergeSort (fun a b c h1 h2 => by simpa using List.le_trans (by simpa using h1) (by simpa using h2)) (fun a b => by simpa using List.le_total a b) _
    have h2 : (bytesOf l).Pairwise fun a b => a ≠ b := by
      unfold bytesOf
      rw [List.pairwise_map]
      exact hn.imp fun h q => h (ByteArray.ext (Array.ext' q))
    have h3 : ((bytesOf l).mergeSort fun x y => decide (x ≤ y)).Pairwise fun a b => a ≠ b := ((List.mergeSort_perm _ _).pairwise_iff (fun h => h.symm)).2 h2
    refine (h1.and h3).imp fun {a b} h => ?_
    show a < b
    exact le_lt (by simpa using h.1) h.2
  · unfold bytesOf
    rw [List.map_map]
    exact List.map_id' _
structure Lm (w wr : World) (b n : Nat) (D : DataW Unit) (ov : Value) (l : List ByteArray) (left : Lit → Bool) (cnt : Nat) : Prop where
  rg : wr.ranges Tryz.prog 76 meanR b w.heap.size n D left cnt
  below : Below w.heap.size w wr
  own : NamsAt wr (w.heap.size + 1) ov l
  mem : ∀ x, x ∈ l ↔ ∃ e : Ent, e.t = x ∧ e.In D ∧ left e.k = false
  nd : l.Pairwise fun a b => a ≠ b
  few : l.length + cnt ≤ 200
theorem Lm.skip {w wr w2 : World} {b n : Nat} {D : DataW Unit} {ov : Value} {l : List ByteArray} {left : Lit → Bool} {cnt cnt1 : Nat} (H : Lm w wr b n D ov l left cnt) {e : Ent} (hin : e.In D) (hm : e.t ∈ l) (hc : cnt1 < cnt)
    (hrg : w2.ranges Tryz.prog 76 meanR b w.heap.size n D (fun z => left z && !z.sameKey e.k) cnt1) (hb : Below w.heap.size w w2) (ho : NamsAt w2 (w.heap.size + 1) ov l) : Lm w w2 b n D ov l (fun z => left z && !z.sameKey e.k) cnt1 := by
  refine ⟨hrg, hb, ho, fun x => (H.mem x).trans ⟨fun ⟨q, q1, q2, q3⟩ => ⟨q, q1, q2, by simp [q3]⟩, fun ⟨q, q1, q2, q3⟩ => ?_⟩, H.nd, by have := H.few; omega⟩
  simp only [Bool.and_eq_false_iff, Bool.not_eq_false'] at q3
  rcases q3 with z | z
  · exact ⟨q, q1, q2, z⟩
  · have := Ent.k_inj q2.wf hin.wf (WideAt.sameKey_eq z)
    rw [← q1, this.1]
    exact (H.mem _).1 hm
theorem Lm.more {w wr w2 : World} {b n : Nat} {D : DataW Unit} {ov ov2 : Value} {l : List ByteArray} {left : Lit → Bool} {cnt cnt1 : Nat} (H : Lm w wr b n D ov l left cnt) {e : Ent} (hin : e.In D) (hm : ¬ e.t ∈ l) (hc : cnt1 < cnt)
    (hrg : w2.ranges Tryz.prog 76 meanR b w.heap.size n D (fun z => left z && !z.sameKey e.k) cnt1) (hb : Below w.heap.size w w2) (ho : NamsAt w2 (w.heap.size + 1) ov2 (l ++ [e.t])) : Lm w w2 b n D ov2 (l ++ [e.t]) (fun z => left z && !z.sameKey e.k) cnt1 := by
  refine ⟨hrg, hb, ho, fun x => ?_, ?_, by have := H.few; simp; omega⟩
  · rw [List.mem_append, List.mem_singleton, H.mem]
    simp only [Bool.and_eq_false_iff, Bool.not_eq_false']
    constructor
    · rintro (⟨q, q1, q2, q3⟩ | rfl)
      · exact ⟨q, q1, q2, .inl q3⟩
      · exact ⟨e, rfl, hin, .inr (WideAt.sameKey_self (Ent.key hin.wf))⟩
    · rintro ⟨q, q1, q2, q3 | q3⟩
      · exact .inl ⟨q, q1, q2, q3⟩
      · exact .inr (q1.symm.trans (Ent.k_inj q2.wf hin.wf (WideAt.sameKey_eq q3)).1)
  · rw [List.pairwise_append]
    refine ⟨H.nd, by simp, fun a ha c hc hq => ?_⟩
    rw [List.mem_singleton] at hc
    subst hc
    exact hm (hq ▸ ha)
theorem Lm.grown {w wr w1 : World} {b n : Nat} {D : DataW Unit} {ov : Value} {l : List ByteArray} {left : Lit → Bool} {cnt : Nat} (H : Lm w wr b n D ov l left cnt) (hg : wr.grownBy w1 (some w.heap.size)) : Below w.heap.size w w1 ∧ NamsAt w1 (w.heap.size + 1) ov l := by
  refine ⟨H.below.grown hg H.below.size (fun j hj => by cases hj; exact Nat.le_refl _), H.own.keep fun g hgo => ?_⟩
  obtain ⟨q1, cur, q2⟩ := H.own.blk hgo
  exact hg.block g (lt_block q2) (fun q => by cases q; omega)
/-- slices.Contains of one's own list. -/
theorem contains_own {w : World} {B : Nat} {v : Value} {l : List ByteArray} (h : NamsAt w B v l) (hl : l.length ≤ 200) (x : ByteArray) : Calls Tryz.prog 40 #[v, .string x] w fun e w' => e = .returned (.bool (Lib.containsS l x)) ∧ w' = w := by
  rcases h.2 with ⟨rfl, h0⟩ | ⟨g, cap, cur, rfl, hb, hk, h1, h2, h3, h4⟩
  · have : l = [] := List.length_eq_zero_iff.1 h0
    subst this
    exact Tryz.slices_Contains_string_empty none 0 x w
  · refine (Tryz.slices_Contains_string g 0 l.length cap l x w (Nat.le_refl _) (by omega) fun j hj => ?_).mono ?_
    · have := World.ownsRow.cells h (g := g) rfl j (.string l[j]) (by simp)
      rw [addB, Nat.zero_add] at this
      rw [Nat.zero_add, this]
      simp [List.getD, List.getElem?_eq_getElem hj]
    · rintro e w' ⟨rfl, rfl⟩
      rw [List.take_length]
      exact ⟨rfl, rfl⟩
/-- slices.Sort of one's own list. -/
theorem sortN_own {w : World} {B : Nat} {v : Value} {l : List ByteArray} (h : NamsAt w B v l) (hl : l.length ≤ 200) (hn : l.Pairwise fun a b => a ≠ b) : Calls Tryz.prog 41 #[v] w fun e w' => e = .returned (.tuple #[]) ∧ ∃ l', l'.Perm l ∧ l'.Pairwise nameLt ∧ NamsAt w' B v l' ∧ ∀ C, Below C w w → C ≤ B → C ≤ w.heap.size → Below C w w' := by
  rcases h.2 with ⟨rfl, h0⟩ | ⟨g, cap, cur, rfl, hb, hk, h1, h2, h3, h4⟩
  · have : l = [] := List.length_eq_zero_iff.1 h0
    subst this
    refine (Tryz.slices_Sort_string_none none 0 w).mono ?_
    rintro e w' ⟨rfl, rfl⟩
    exact ⟨rfl, [], List.Perm.refl _, List.Pairwise.nil, h, fun C h _ _ => h⟩
  · obtain ⟨l', hp, hs, hm⟩ := sorted_names l hn
    have hlen : (bytesOf l).length = l.length := by unfold bytesOf; simp
    have hlen2 : l'.length = l.length := hp.length_eq
    have hlen3 : (bytesOf l').length = (bytesOf l).length := by unfold bytesOf; simp [hlen2]
    rw [← bytes_enc] at h4
    have hc := Tryz.slices_Sort_string g 0 cap (bytesOf l) w (holds_of_block hk (by rw [hlen]; simpa using h4)) (lt_block hk) (by omega)
    rw [hlen] at hc
    refine hc.mono ?_
    rintro e w' ⟨rfl, n, os, rfl⟩
    rw [← hm]
    have hown := ownsRow_sorted (n := n) (os := os) (ts := bytesOf l') (ss := bytesOf l) hlen3 hb hk (by rw [hlen]; exact h1) h2 (by simpa using h3)
    refine ⟨rfl, l', hp, hs, ?_, fun C hC hCB hCs => hC.grown (grownBy_sorted _) hCs (fun j hj => by cases hj; omega)⟩
    unfold NamsAt
    rw [← bytes_enc, hlen2]
    rw [hlen] at hown
    exact hown
theorem sortN_any {w : World} {B : Nat} {v : Value} {l : List ByteArray} (h : NamsAt w B v l) (hl : l.length ≤ 200) (hn : l.Pairwise fun a b => a ≠ b) : Calls Tryz.prog 41 #[v] w fun e w' => e = .returned (.tuple #[]) ∧ ∃ l', l'.Perm l ∧ l'.Pairwise nameLt ∧ SeeN w' v l' ∧ ∀ C, Below C w w → C ≤ B → C ≤ w.heap.size → Below C w w' := by
  refine (sortN_own h hl hn).mono ?_
  rintro e w' ⟨he, l', h1, h2, h3, h4⟩
  exact ⟨he, l', h1, h2, h3.see, h4⟩
end Go.Proofs.YtbonnjilbocldaaGreatDoor

namespace Go.Proofs.YtbonnjilbocldaaGreatDoor
open Go.RowKit Go.Sort Go.Maps
set_option linter.unusedVariables false
set_option maxRecDepth 100000

set_option maxHeartbeats 1000000 in
theorem names_own {w : World} {d b n : Nat} {D : DataW Unit} (h : Tb w d b n D) (hD : Ok D) :
    Calls Tryz.prog 19 #[.pointer (some ⟨d, 0, none⟩)] w fun e w' => ∃ v l, e = .returned v ∧ Nms D l ∧ l.length ≤ 200 ∧ NamsAt w' (w.heap.size + 1) v l ∧ Below w.heap.size w w' := by
  have hc0 := cell_at h.blk 0
  have HOwn := hidK h.own
  go_enter Tryz.func19, Tryz.ntmps19
  go_wp2_with (first
    | (at_range; refine wpList_range_own _ rfl (.tmp 8) 64 rfl 76 78 slotKeyed underRows meanR b n D rfl HOwn.out ?_; intro w0 hrg0 hg0 hs0)
    | go_in)
  go_frame
  go_loopw [3] (fun ov wr => ∃ l left cnt, Hid (Lm w wr b n D ov l left cnt)) (fun _ wr => wr.rangeLeft b w.heap.size)
  case atStart =>
    refine ⟨[], _, _, hidK ⟨hrg0, (Below.refl _ _).grown hg0 (Nat.le_refl _) (fun j hj => by cases hj), NamsAt.nil _ _, fun e => ?_, List.Pairwise.nil, by have := hD.few; simpa using this⟩⟩
    simp only [List.not_mem_nil, false_iff]
    rintro ⟨q, q1, q2, q3⟩
    rw [q2.has] at q3
    cases q3
  case round =>
    obtain ⟨l, left, cnt, HL⟩ := hrel
    go_wp2_with (first
      | (at_next; refine wpList_next_ranges _ rfl (.tmp 9) rfl 76 slotKeyed meanR (fun x : Value => x) (fun x : Value => x) (fun key _ _ => ⟨key, rfl⟩) (fun v _ _ => ⟨v, rfl⟩) b w.heap.size n D left cnt rfl HL.out.rg ?_ ?_)
      | go_in)
    · intro hz hlz
      have hmem : ∀ x, x ∈ l ↔ ∃ e : Ent, e.t = x ∧ e.In D := fun x => by rw [HL.out.mem]; simp [hlz]
      have hlen : l.length ≤ 200 := by have := HL.out.few; omega
      have HM := hidK hmem
      have HLn := hidK hlen
      have HBw := hidK HL.out.below
      have HSo := sortN_own HL.out.own hlen HL.out.nd
      clear hmem hlz hlen
      go_wp2_with (go_at_call 41; refine HSo.mono ?_; rintro e w' ⟨rfl, hex⟩; have HX := hidK hex; clear hex)
      go_ret
      obtain ⟨l', hp, hu, hs, hb⟩ := HX.out
      refine ⟨_, l', rfl, ⟨hu, fun x => ?_⟩, by rw [hp.length_eq]; exact HLn.out, hs, ?_⟩
      · rw [hp.mem_iff]
        exact HM.out x
      · refine below_step2 HBw.out (hb _ (Below.refl _ _) ?_ HBw.out.size) (Nat.le_refl _)
        omega
    · intro key val kl y1 y2 w1 cnt1 hkey hleft hval hat hrg1 hlt hg1 hs1 hen
      have hhas := Maps.has_true_of_atKey hat
      obtain ⟨e, hek, hin, hw, hv⟩ := hD.keys kl hhas
      obtain ⟨s, r, rfl, hz⟩ := meanR_inv hval
      have hkv : key = .agg #[.string e.t, .int .i64 e.c, .int .i64 e.m] := by
        subst hek
        exact slotKeyed.inj hkey (slot_key (by have := hin.wf.1; unfold maxLen; omega) hin.wf.2.1 hin.wf.2.2)
      subst hkv hek
      clear hval hz hat
      obtain ⟨hb1, ho1⟩ := HL.out.grown hg1
      have HCl : Hid (∀ Y, Calls Tryz.prog 36 #[.string e.t] Y fun q w' => q = .returned (.string e.t) ∧ Below Y.heap.size Y w') := fun Y => clone_any e.t Y hin.wf.1
      obtain ⟨w2, hw2⟩ : ∃ W, w1.alloc (.cells #[.string e.t, .int .i64 e.c, .int .i64 e.m] 76) = W := ⟨_, rfl⟩
      have hA : w2.heap[wr.heap.size]? = some (.cells #[.string e.t, .int .i64 e.c, .int .i64 e.m] 76 (0, 0)) := by rw [← hw2, ← hs1]; exact heap_alloc_new _ _
      have a0 := cell_at hA 0
      clear hA
      have hb2 : Below w1.heap.size w1 w2 := by rw [← hw2]; exact (Below.refl _ _).alloc (Nat.le_refl _) _
      have hrg2 : w2.ranges Tryz.prog 76 meanR b w.heap.size n D (fun z => left z && !z.sameKey e.k) cnt1 := by rw [← hw2]; exact hrg1.alloc _
      have HR2 := hidK hrg2
      have HO2 := hidK (ho1.below hb2)
      have HB2 := hidK (below_step2 hb1 hb2 hb1.size)
      have HLt : Hid (w2.rangeLeft b w.heap.size < wr.rangeLeft b w.heap.size) := by
        show _ < _
        rw [HR2.out.left_eq, HL.out.rg.left_eq]; exact hlt
      have HSz : Hid (w.heap.size + 1 ≤ w2.heap.size) := by
        have h1 := HB2.out.size
        have h2 := HR2.out.lt
        show _ ≤ _
        omega
      have HLn : Hid (l.length ≤ 200) := by have := HL.out.few; show _ ≤ _; omega
      have HCo := contains_own HO2.out HLn.out e.t
      clear hc0 hb2 hrg2 ho1 hb1 hrg1 hg1
      obtain ⟨cn, hcn⟩ : ∃ q, Lib.containsS l e.t = q := ⟨_, rfl⟩
      rw [hcn] at HCo
      have HCn := hidK hcn
      clear hcn
      go_wp2_with (first
        | (go_at_call 40; refine HCo.mono ?_; rintro q Y ⟨rfl, hq⟩; replace hq := hq.symm; subst hq)
        | (go_at_call 36; refine (HCl.out _).mono ?_; rintro q Y ⟨rfl, hbY⟩; have HKY : Hid (NamsAt Y (w.heap.size + 1) u3 l) := (HO2.out.below hbY); have HbY := hidK hbY; clear hbY)
        | (at_builtin; refine wpList_append_nam _ rfl (.tmp 19) (.tmp 23) rfl (w.heap.size + 1) _ l rfl (HKY.out.below ((Below.refl _ _).alloc (Nat.le_refl _) _)) Y.heap.size e.t rfl (heap_alloc_new Y _) ?x1 ?x2 ?_; (case x1 => have := HLn.out; omega); (case x2 => have h1 := HSz.out; have h2 := HbY.out.size; simp; omega); intro ov2 w6 ho6 hg6))
      · have hno : ¬ e.t ∈ l := fun q => by
          have q1 := (Lib.containsS_iff l e.t).2 q
          rw [HCn.out] at q1
          simp_all
        have hgY : w2.grownBy Y none := ⟨HbY.out.os, HbY.out.tape, HbY.out.output, HbY.out.size, fun i hi _ => HbY.out.block i hi⟩
        have hgA := World.grownBy_alloc Y (.cells #[.string e.t] 9) none
        have hnb : ∀ g, u3.ownBlock = some g → w.heap.size + 1 ≤ g := fun g hg => (HO2.out.blk hg).1
        have hr6 := ((HR2.out.kept hgY (by simp) (by simp)).kept hgA (by simp) (by simp)).kept hg6 (fun q => by have h1 := hnb _ q.symm; have h2 := h.lt.2; omega) (fun q => by have h1 := hnb _ q.symm; omega)
        have hbl : Below w.heap.size w (Y.alloc (.cells #[.string e.t] 9)) := below_step2 HB2.out ((HbY.out.alloc HbY.out.size _)) HB2.out.size
        have hb6 : Below w.heap.size w w6 := hbl.grown hg6 hbl.size (fun j hj => by have := hnb j hj; omega)
        refine ⟨⟨_, _, _, hidK (HL.out.more hin hno hlt hr6 hb6 ho6)⟩, ?_⟩
        have h1 := HLt.out
        rw [HR2.out.left_eq] at h1
        rw [hr6.left_eq]
        exact h1
      · have hyes : e.t ∈ l := (Lib.containsS_iff l e.t).1 (by rw [HCn.out]; simp_all)
        exact ⟨⟨_, _, _, hidK (HL.out.skip hin hyes hlt HR2.out HB2.out HO2.out)⟩, HLt.out⟩
theorem names_any {w : World} {d b n : Nat} {D : DataW Unit} (h : Tb w d b n D) (hD : Ok D) :
    Calls Tryz.prog 19 #[.pointer (some ⟨d, 0, none⟩)] w fun e w' => ∃ v l, e = .returned v ∧ Nms D l ∧ l.length ≤ 200 ∧ SeeN w' v l ∧ Below w.heap.size w w' := by
  refine (names_own h hD).mono ?_
  rintro e w' ⟨v, l, h1, h2, h3, h4, h5⟩
  exact ⟨v, l, h1, h2, h3, h4.see, h5⟩
end Go.Proofs.YtbonnjilbocldaaGreatDoor
