/-
  Buffers: where a buffer stands; how many are named.
-/
import Derived.Test.YtgbaeajcgiaboaaDoorUMem
import Derived.Test.YtgbaeajcgiaboaaDoorShelf
import Derived.Lib.SlicesS
import Derived.Lib.SliceRun
namespace Go.Proofs.YtgbaeajcgiaboaaDoor
open Go.RowKit
set_option linter.unusedVariables false
set_option maxRecDepth 100000

theorem makeFunc_run (fn : Fn) (first cap : Array Value) (w : World) : (Instr.makeFunc fn first cap).run Tryd.prog w = .ok (.func fn first cap) w := rfl
/-- A function value that is asked of a buffer. -/
def AskOk (g : Nat) (cap : Array Value) (p : Kp → Bool) (w : World) : Prop := ∀ (W : World) (k : Kp), Below w.heap.size w W → Calls Tryd.prog g (#[kV k] ++ cap) W fun e W' => e = .returned (.bool (p k)) ∧ Below W.heap.size W W'
theorem isAuto_ask (w : World) : AskOk 46 #[] isA w := fun W k _ => by
  obtain ⟨n, t, a⟩ := k
  show Calls Tryd.prog 46 #[.agg #[.string n, .string t, .bool a]] W _
  unfold isA
  go_enter Tryd.func46, Tryd.ntmps46
  go_wp2
  go_ret
  exact ⟨rfl, (Below.refl _ _).alloc (Nat.le_refl _) _⟩
theorem place_ask {w : World} {g : Nat} {name : ByteArray} (hc : w.cell? ⟨g, 0, none⟩ = some (.string name)) : AskOk 58 #[.pointer (some ⟨g, 0, none⟩)] (nmd name) w := fun W k hb => by
  obtain ⟨n, t, a⟩ := k
  show Calls Tryd.prog 58 #[.agg #[.string n, .string t, .bool a], .pointer (some ⟨g, 0, none⟩)] W _
  have hg : g < w.heap.size := World.block_lt_of_cell? w _ hc
  have hcW : W.cell? ⟨g, 0, none⟩ = some (.string name) := (hb.cell (p := ⟨g, 0, none⟩) hg).trans hc
  have hne : ¬ g = W.heap.size := by have := hb.size; omega
  unfold nmd
  by_cases hnn : n = name
  · subst hnn
    have he : (n.toList == n.toList) = true := by simp
    have hcA : ∀ o, (W.alloc o).cell? ⟨g, 0, none⟩ = some (.string n) := fun o => Lib.cell?_alloc_some o hcW
    clear hcW hc hb
    go_enter Tryd.func58, Tryd.ntmps58
    go_wp2
    all_goals go_ret
    all_goals exact ⟨by simp, (Below.refl _ _).alloc (Nat.le_refl _) _⟩
  · have he : (n.toList == name.toList) = false := (Lib.bytes_beq_false_iff _ _).2 hnn
    have hcA : ∀ o, (W.alloc o).cell? ⟨g, 0, none⟩ = some (.string name) := fun o => Lib.cell?_alloc_some o hcW
    have hd : decide (n = name) = false := decide_eq_false hnn
    rw [hd]
    clear hcW hc hb
    go_enter Tryd.func58, Tryd.ntmps58
    go_wp2
    all_goals go_ret
    all_goals exact ⟨by simp_all, (Below.refl _ _).alloc (Nat.le_refl _) _⟩

set_option maxHeartbeats 4000000 in
theorem indexFunc_any {w : World} {v : Value} {l : List Kp} (h : KpsAt w v l) {g : Nat} {cap : Array Value} {p : Kp → Bool} (eg : ∀ args w, (callFunc g args).run Tryd.prog w = .ok (.enter g args) w) (hp : AskOk g cap p w) :
    Calls Tryd.prog 45 #[v, .func (.func g) #[] cap] w fun e w' => e = .returned (.int .i64 (fidx p l)) ∧ Below w.heap.size w w' := by
  obtain ⟨ad, cp, rfl, hle, hcm, hnil, hsome⟩ := h.shape
  obtain ⟨n, hn⟩ : ∃ n, l.length = n := ⟨_, rfl⟩
  have HN := hidK hn
  have HP := hidK hp
  have HS := hidK hsome
  have HNil := hidK hnil
  have hn63 : n ≤ 9223372036854775807 := by unfold maxLen at hcm; omega
  rw [hn]
  obtain ⟨R, hR⟩ : ∃ R, fidx p l = R := ⟨_, rfl⟩
  have HR := hidK hR
  rw [hR]
  clear hn hp hsome hnil h hle hcm hR
  go_enter Tryd.func45, Tryd.ntmps45
  go_wp2_with fail
  go_loopw [5, 8] (fun i j wr => ∃ k : Nat, ∃ k0 : Value, k ≤ n ∧ i = k0 ∧ j = .int .i64 k ∧ Hid (Below w.heap.size w wr) ∧ Hid (∀ j (hj : j < l.length), j < k → p l[j] = false)) (fun _ j _ => n - (intOf j).toNat)
  case atStart => exact ⟨0, _, Nat.zero_le _, rfl, rfl, Below.refl _ _, fun j _ hj => by omega⟩
  case round =>
    obtain ⟨k, k0, hk, rfl, rfl, HW, HT⟩ := hrel
    by_cases hlt : k < n
    · have hkl : k < l.length := by rw [HN.out]; exact hlt
      cases ad with
      | none => have := (HNil.out rfl).1; rw [this] at hkl; simp at hkl
      | some a =>
        obtain ⟨g0, o0, rfl, hob, hgl, hat⟩ := HS.out _ rfl
        have hcells := fun c u hu => hat wr (HW.out.block g0 hgl) k hkl c u hu
        obtain ⟨⟨n1, t1, a1⟩, hx⟩ : ∃ q, l[k] = q := ⟨_, rfl⟩
        rw [hx] at hcells
        have c0 : wr.cell? ⟨g0, o0 + k * 3, none⟩ = some (.string n1) := hcells 0 _ rfl
        have c1 : wr.cell? ⟨g0, o0 + k * 3 + 1, none⟩ = some (.string t1) := hcells 1 _ rfl
        have c2 : wr.cell? ⟨g0, o0 + k * 3 + 2, none⟩ = some (.bool a1) := hcells 2 _ rfl
        have hi1 : (k : Int) < (n : Int) := by omega
        have HC : Hid (Calls Tryd.prog g (#[.agg #[.string n1, .string t1, .bool a1]] ++ cap) wr fun e W' => e = .returned (.bool (p l[k])) ∧ Below wr.heap.size wr W') := by
          rw [hx]
          exact HP.out wr ⟨n1, t1, a1⟩ HW.out
        clear hcells hat hx
        cases hpk : p l[k] with
        | true =>
          rw [hpk] at HC
          have HQ : Hid ((k : Int) = R) := by
            have := fidx_hit (p := p) (l := l) hkl hpk (fun j hj hjk => HT.out j hj hjk)
            exact this.symm.trans HR.out
          clear hpk
          go_wp2_with (go_at_fn g; refine HC.out.mono ?_; rintro e w1 ⟨rfl, hb1⟩; have HB1 := hidK (HW.out.trans (hb1.mono HW.out.size)); clear hb1)
          go_ret
          exact ⟨by rw [HQ.out]; rfl, HB1.out⟩
        | false =>
          rw [hpk] at HC
          have HQ : Hid (∀ j (hj : j < l.length), j < k + 1 → p l[j] = false) := fun j hj hjk => by
            by_cases e : j = k
            · subst e; exact hpk
            · exact HT.out j hj (by omega)
          clear hpk
          go_wp2_with (go_at_fn g; refine HC.out.mono ?_; rintro e w1 ⟨rfl, hb1⟩; have HB1 := hidK (HW.out.trans (hb1.mono HW.out.size)); clear hb1)
          go_roundw
          case rel => exact ⟨k + 1, _, by omega, rfl, by go_num, HB1, HQ⟩
          case measure => simp [intOf]; omega
    · have HQ : Hid (R = -1) := by rw [← HR.out]; exact fidx_miss fun j hj => HT.out j hj (by have := HN.out; omega)
      clear HT
      go_wp2_with fail
      go_ret
      exact ⟨by rw [HQ.out]; rfl, HW.out⟩

/-- The buffers in memory. -/
structure Bf (w : World) (b : Nat) (v : Value) (l : List Kp) (lim c : Int) : Prop where
  hd : w.heap[b]? = some (.cells #[v, .int .i64 lim, .int .i64 c] 45 (0, 0))
  row : KpsAt w v l
theorem Bf.ne {w : World} {b : Nat} {v : Value} {l : List Kp} {lim c : Int} (h : Bf w b v l lim c) : ∀ g, v.ownBlock = some g → b ≠ g := by
  rintro g hg rfl
  obtain ⟨cur, h1⟩ := Row.block h.row hg
  rw [h.hd] at h1
  cases h1
theorem Bf.lt {w : World} {b : Nat} {v : Value} {l : List Kp} {lim c : Int} (h : Bf w b v l lim c) : b < w.heap.size := lt_block h.hd
theorem Bf.below {w w' : World} {b : Nat} {v : Value} {l : List Kp} {lim c : Int} (h : Bf w b v l lim c) (hb : Below w.heap.size w w') : Bf w' b v l lim c := ⟨(hb.block b h.lt).trans h.hd, Row.below h.row hb⟩
theorem Bf.len {w : World} {b : Nat} {v : Value} {l : List Kp} {lim c : Int} (h : Bf w b v l lim c) : l.length ≤ 9223372036854775807 := by
  have := Row.len h.row
  unfold maxLen at this
  omega
theorem Bf.slice {w : World} {b : Nat} {v : Value} {l : List Kp} {lim c : Int} (h : Bf w b v l lim c) : ∃ ad cp, v = .slice ad l.length cp := by
  obtain ⟨ad, cp, e, _⟩ := h.row.shape
  exact ⟨ad, cp, e⟩
set_option maxHeartbeats 4000000 in
theorem place_any {w : World} {b : Nat} {v : Value} {l : List Kp} {lim c : Int} (h : Bf w b v l lim c) (name : ByteArray) :
    Calls Tryd.prog 38 #[.pointer (some ⟨b, 0, none⟩), .string name] w fun e w' => e = .returned (.int .i64 (fidx (nmd name) l)) ∧ Below w.heap.size w w' := by
  have hmf := makeFunc_run
  have eg : ∀ args w, (callFunc 58 args).run Tryd.prog w = .ok (.enter 58 args) w := enters_of Tryd.func58 (by kernel_rfl) rfl
  have ba : Below w.heap.size w (w.alloc (.cells #[.string name] 9)) := (Below.refl _ _).alloc (Nat.le_refl _) _
  have HC := hidK (indexFunc_any (w := w.alloc (.cells #[.string name] 9)) (Row.below h.row ba) eg (place_ask (g := w.heap.size) (name := name) (by simp)))
  have HB := hidK ba
  have c0 : (w.alloc (.cells #[.string name] 9)).cell? ⟨b, 0, none⟩ = some v := cell_at ((ba.block b h.lt).trans h.hd) 0
  clear ba
  obtain ⟨ad, cp, rfl⟩ := h.slice
  obtain ⟨R, hR⟩ : ∃ R, fidx (nmd name) l = R := ⟨_, rfl⟩
  rw [hR] at HC ⊢
  clear hR h
  go_enter Tryd.func38, Tryd.ntmps38
  go_wp2_with (go_at_call 45; refine HC.out.mono ?_; rintro e w1 ⟨rfl, hb1⟩; have HB1 := hidK (HB.out.trans (hb1.mono (by simp))); clear hb1)
  go_ret
  exact ⟨rfl, HB1.out⟩
/-- How many are named. -/
theorem named_take (l : List Kp) (k : Nat) (hk : k < l.length) : named (l.take (k + 1)) = named (l.take k) + (if l[k].a then 0 else 1) := by
  rw [List.take_add_one, List.getElem?_eq_getElem hk, Option.toList_some, named_append, named_cons]
  simp [named]
set_option maxHeartbeats 4000000 in
theorem isFull_any {w : World} {b : Nat} {v : Value} {l : List Kp} {lim c : Int} (h : Bf w b v l lim c) :
    Calls Tryd.prog 39 #[.pointer (some ⟨b, 0, none⟩)] w fun e w' => e = .returned (.bool (decide (20 ≤ named l))) ∧ Below w.heap.size w w' := by
  obtain ⟨ad, cp, rfl, hle, hcm, hnil, hsome⟩ := h.row.shape
  have c0 : w.cell? ⟨b, 0, none⟩ = some _ := cell_at h.hd 0
  obtain ⟨n, hn⟩ : ∃ n, l.length = n := ⟨_, rfl⟩
  have HN := hidK hn
  have HS := hidK hsome
  have HNil := hidK hnil
  have hn63 : n ≤ 9223372036854775807 := by unfold maxLen at hcm; omega
  have c0' : w.cell? ⟨b, 0, none⟩ = some (.slice ad n cp) := by rw [← hn]; exact c0
  clear c0 hn hsome hnil h hle hcm
  obtain ⟨R, hR⟩ : ∃ R, decide (20 ≤ named l) = R := ⟨_, rfl⟩
  have HR := hidK hR
  rw [hR]
  clear hR
  go_enter Tryd.func39, Tryd.ntmps39
  go_wp2_with fail
  go_loopw [3, 11] (fun i j wr => ∃ k m : Nat, k ≤ n ∧ m ≤ k ∧ i = .int .i64 m ∧ j = .int .i64 k ∧ Hid (Below w.heap.size w wr) ∧ Hid (named (l.take k) = m)) (fun _ j _ => n - (intOf j).toNat)
  case atStart => exact ⟨0, 0, Nat.zero_le _, Nat.zero_le _, rfl, rfl, Below.refl _ _, rfl⟩
  case round =>
    obtain ⟨k, m, hk, hm, rfl, rfl, HW, HT⟩ := hrel
    by_cases hlt : k < n
    · have hkl : k < l.length := by rw [HN.out]; exact hlt
      cases ad with
      | none => have := (HNil.out rfl).1; rw [this] at hkl; simp at hkl
      | some a =>
        obtain ⟨g0, o0, rfl, hob, hgl, hat⟩ := HS.out _ rfl
        have hcells := fun c u hu => hat wr (HW.out.block g0 hgl) k hkl c u hu
        have ht := named_take l k hkl
        obtain ⟨⟨n1, t1, a1⟩, hx⟩ : ∃ q, l[k] = q := ⟨_, rfl⟩
        rw [hx] at hcells ht
        have c0 : wr.cell? ⟨g0, o0 + k * 3, none⟩ = some (.string n1) := hcells 0 _ rfl
        have c1 : wr.cell? ⟨g0, o0 + k * 3 + 1, none⟩ = some (.string t1) := hcells 1 _ rfl
        have c2 : wr.cell? ⟨g0, o0 + k * 3 + 2, none⟩ = some (.bool a1) := hcells 2 _ rfl
        have hi1 : (k : Int) < (n : Int) := by omega
        clear hcells hat hx
        cases a1 with
        | true =>
          have HQ : Hid (named (l.take (k + 1)) = m) := by rw [ht, HT.out]; rfl
          have HW1 : Hid (∀ o : Obj, Below w.heap.size w (wr.alloc o)) := fun o => HW.out.alloc HW.out.size o
          clear ht
          go_wp2_with fail
          go_roundw
          case rel => exact ⟨k + 1, m, by omega, by omega, rfl, by go_num, HW1.out _, HQ⟩
          case measure => simp [intOf]; omega
        | false =>
          have HQ : Hid (named (l.take (k + 1)) = m + 1) := by rw [ht, HT.out]; rfl
          have HW1 : Hid (∀ o : Obj, Below w.heap.size w (wr.alloc o)) := fun o => HW.out.alloc HW.out.size o
          clear ht
          go_wp2_with fail
          go_roundw
          case rel => exact ⟨k + 1, m + 1, by omega, by omega, by go_num, by go_num, HW1.out _, HQ⟩
          case measure => simp [intOf]; omega
    · have HQ : Hid (R = decide (20 ≤ m)) := by
        have e : l.take k = l := List.take_of_length_le (by have := HN.out; omega)
        rw [← HR.out, ← HT.out, e]; exact hidK rfl
      clear HT
      go_wp2_with fail
      go_ret
      exact ⟨by rw [HQ.out]; simp; omega, HW.out⟩
end Go.Proofs.YtgbaeajcgiaboaaDoor
