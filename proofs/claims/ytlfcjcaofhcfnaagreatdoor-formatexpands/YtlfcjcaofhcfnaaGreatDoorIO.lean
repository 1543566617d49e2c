/-
  Formats: what the document's turns say, and what the program's say (pure).
  Formats: every turn that can be read fits; the document turns by each of them; isIn.
  Formats: the document's lists of heads.
-/
import Derived.Test.YtlfcjcaofhcfnaaGreatDoorIN
import Derived.Test.YtlfcjcaofhcfnaaGreatDoorGF
import Derived.Test.YtlfcjcaofhcfnaaGreatDoorIM
namespace Go.Proofs.YtlfcjcaofhcfnaaGreatDoor
open Go.RowKit
set_option linter.unusedVariables false
set_option maxRecDepth 100000

theorem exchR_cons (x y : List UInt8) (hx : x ≠ []) (c : UInt8) (r : List UInt8) : exchR x y (c :: r) = if (c :: r).take x.length = x then y ++ exchR x y ((c :: r).drop x.length) else c :: exchR x y r := by
  have h0 : 0 < x.length := List.length_pos_iff.2 hx
  unfold exchR
  show exchD x y (r.length + 1) (c :: r) = _
  simp only [exchD]
  split
  · rw [exchD_fuel x y hx r.length ((c :: r).drop x.length).length _ (by rw [List.length_drop, List.length_cons]; omega) (Nat.le_refl _)]
  · rfl
theorem prefix_take (x l : List UInt8) : x.isPrefixOf l = true ↔ l.take x.length = x := by
  rw [List.isPrefixOf_iff_prefix, List.prefix_iff_eq_take]
  exact eq_comm
theorem exchR_none (x y : List UInt8) (hx : x ≠ []) : ∀ l, Lib.index l x < 0 → exchR x y l = l
  | [], _ => rfl
  | c :: r, h => by
    unfold Lib.index at h
    split at h
    · omega
    · rename_i h1
      rw [exchR_cons x y hx, if_neg (fun e => h1 ((prefix_take _ _).2 e))]
      have hge := index_ge r x
      split at h
      · rename_i h2
        have h3 : Lib.index r x = -1 := by simpa using h2
        rw [exchR_none x y hx r (by omega)]
      · omega
theorem exchR_some (x y : List UInt8) (hx : x ≠ []) : ∀ (l : List UInt8) (o : Nat), Lib.index l x = (o : Int) → exchR x y l = l.take o ++ (y ++ exchR x y (l.drop (o + x.length)))
  | [], o, h => by
    unfold Lib.index at h
    split at h
    · rename_i e
      exact absurd (List.isEmpty_iff.1 e) hx
    · omega
  | c :: r, o, h => by
    unfold Lib.index at h
    split at h
    · rename_i h1
      have e : o = 0 := by omega
      subst e
      rw [exchR_cons x y hx, if_pos ((prefix_take _ _).1 h1), Nat.zero_add]
      rfl
    · rename_i h1
      rw [exchR_cons x y hx, if_neg (fun e => h1 ((prefix_take _ _).2 e))]
      have hge := index_ge r x
      split at h
      · omega
      · rename_i h2
        have h3 : ¬ Lib.index r x = -1 := fun e => h2 (by rw [e]; rfl)
        obtain ⟨q, hq⟩ : ∃ q : Nat, Lib.index r x = q := ⟨(Lib.index r x).toNat, by omega⟩
        obtain rfl : o = q + 1 := by omega
        rw [exchR_some x y hx r q hq, show q + 1 + x.length = (q + x.length) + 1 by omega, List.drop_succ_cons, List.take_succ_cons, List.cons_append]
def Far (a b : List UInt8) : Prop := a = b ∨ (1024 < a.length ∧ 1024 < b.length)
theorem exch_g (x y : List UInt8) (hx : x ≠ []) : ∀ (f : Nat) (l out : List UInt8), l.length < f → Far (exchG x y f out l) (out ++ exchR x y l)
  | 0, l, out, h => by omega
  | f + 1, l, out, h => by
    have h0 : 0 < x.length := List.length_pos_iff.2 hx
    simp only [exchG]
    split
    · rename_i h1
      exact .inr ⟨h1, by rw [List.length_append]; omega⟩
    · split
      · rename_i h2
        rw [exchR_none x y hx l h2]
        exact .inl rfl
      · rename_i h2
        obtain ⟨q, hq⟩ : ∃ q : Nat, Lib.index l x = q := ⟨(Lib.index l x).toNat, by omega⟩
        have hle := index_le hq
        rw [exchR_some x y hx l q hq, hq, Int.toNat_natCast]
        have := exch_g x y hx f (l.drop (q + x.length)) (out ++ (l.take q ++ y)) (by rw [List.length_drop]; omega)
        simpa only [List.append_assoc] using this
theorem far_exch (x y l : List UInt8) (hx : x ≠ []) : Far (exchF x y l) (exchR x y l) := exch_g x y hx _ l [] (Nat.lt_succ_self _)
theorem xor_great : ∀ c : UInt8, smallB c = true → c ^^^ 97 ^^^ 65 = c - 32 := by
  intro c
  have : ∀ n : Fin 256, smallB (UInt8.ofNat n.val) = true → UInt8.ofNat n.val ^^^ 97 ^^^ 65 = UInt8.ofNat n.val - 32 := by decide +kernel
  have h := this ⟨c.toNat, c.toNat_lt⟩
  simpa using h
theorem xor_small : ∀ c : UInt8, greatB c = true → c ^^^ 97 ^^^ 65 = c + 32 := by
  intro c
  have : ∀ n : Fin 256, greatB (UInt8.ofNat n.val) = true → UInt8.ofNat n.val ^^^ 97 ^^^ 65 = UInt8.ofNat n.val + 32 := by decide +kernel
  have h := this ⟨c.toNat, c.toNat_lt⟩
  simpa using h
theorem letters_great (l : List UInt8) : Far (lettersT smallB l) (l.map greatD) := by
  unfold lettersT
  split
  · rename_i h
    exact .inr ⟨h, by rw [List.length_map]; exact h⟩
  · refine .inl ?_
    unfold lettersF
    refine List.map_congr_left fun c _ => ?_
    unfold greatD
    split
    · rename_i h; exact xor_great c h
    · rfl
theorem letters_small (l : List UInt8) : Far (lettersT greatB l) (l.map smallD) := by
  unfold lettersT
  split
  · rename_i h
    exact .inr ⟨h, by rw [List.length_map]; exact h⟩
  · refine .inl ?_
    unfold lettersF
    refine List.map_congr_left fun c _ => ?_
    unfold smallD
    split
    · rename_i h; exact xor_small c h
    · rfl
/-- A turn that can be read. -/
def Turn.fits : Turn → Prop
  | .cut n => n < 10000
  | .last n => n < 10000
  | .behind n => n < 10000
  | .ahead n => n < 10000
  | .exch x y => x ≠ [] ∧ x.length ≤ 1048576 ∧ y.length ≤ 1048576
  | _ => True
/-- What the document says of a turn. -/
theorem far_turn (t : Turn) (ht : t.fits) (l : List UInt8) : Far (t.of l) (docTurn t l) := by
  cases t with
  | great => exact letters_great l
  | small => exact letters_small l
  | exch x y => exact far_exch x y l ht.1
  | _ => exact .inl rfl
theorem four_lt : ∀ (l : List UInt8) (n i m : Nat), i ≤ 4 → n < 10 ^ i → fourG n i l = some m → m < 10000
  | [], n, i, m, hi, hn, h => by
    simp only [fourG] at h
    cases h
    have : 10 ^ i ≤ 10 ^ 4 := Nat.pow_le_pow_right (by omega) hi
    omega
  | c :: r, n, i, m, hi, hn, h => by
    simp only [fourG] at h
    split at h
    · cases h
    · rename_i hc
      have hd : digitB c = true := by cases hb : digitB c with | true => rfl | false => exact absurd (.inl hb) hc
      have hi4 : i ≠ 4 := fun e => hc (.inr e)
      have hd2 : c.toNat ≤ 57 := by
        unfold digitB at hd
        simp at hd
        omega
      exact four_lt r _ _ m (by omega) (by rw [Nat.pow_succ]; omega) h
theorem fourF_lt {l : List UInt8} {m : Nat} (h : fourF l = some m) : m < 10000 := by
  unfold fourF at h
  split at h
  · cases h
  · exact four_lt l 0 0 m (by omega) (by decide) h

end Go.Proofs.YtlfcjcaofhcfnaaGreatDoor

namespace Go.Proofs.YtlfcjcaofhcfnaaGreatDoor
open Go.RowKit
set_option linter.unusedVariables false
set_option maxRecDepth 100000

theorem num_fits {p m : Nat → Turn} (hp : ∀ n, n < 10000 → (p n).fits) (hm : ∀ n, n < 10000 → (m n).fits) {r : List UInt8} {t : Turn} (h : some (numF p m r) = some (some t)) : t.fits := by
  have h := Option.some.inj h
  unfold numF at h
  split at h
  · obtain ⟨n, h1, rfl⟩ := Option.map_eq_some_iff.1 h
    exact hm n (fourF_lt h1)
  · obtain ⟨n, h1, rfl⟩ := Option.map_eq_some_iff.1 h
    exact hp n (fourF_lt h1)
theorem bare_fits {u : Turn} (hu : u.fits) {r : List UInt8} {t : Turn} (h : some (bareF u r) = some (some t)) : t.fits := by
  have h := Option.some.inj h
  unfold bareF at h
  split at h
  · cases h; exact hu
  · cases h
theorem exch_fits {r : List UInt8} {t : Turn} (hr : r.length ≤ 1048576) (h : some (exchT r) = some (some t)) : t.fits := by
  have h := Option.some.inj h
  unfold exchT at h
  have hs := splitG_short 47 r []
  generalize splitG 47 [] r = ps at h hs
  match ps, h with
  | [a, x, y, b], h =>
    simp only [exchP] at h
    split at h
    · rename_i hc
      cases h
      have h1 := hs x (by simp)
      have h2 := hs y (by simp)
      simp only [List.length_nil] at h1 h2
      exact ⟨hc.2.1, by omega, by omega⟩
    · cases h
theorem turn_fits {p : List UInt8} (hp : p.length ≤ 1048576) {t : Turn} (h : turnF p = some (some t)) : t.fits := by
  cases p with
  | nil => cases h
  | cons c r =>
    have hr : r.length ≤ 1048576 := by simp only [List.length_cons] at hp; omega
    simp only [turnF] at h
    split at h
    · exact num_fits (p := .cut) (m := .last) (fun n hn => hn) (fun n hn => hn) h
    split at h
    · exact num_fits (p := .behind) (m := .ahead) (fun n hn => hn) (fun n hn => hn) h
    split at h
    · exact bare_fits (u := .base) trivial h
    split at h
    · exact bare_fits (u := .folder) trivial h
    split at h
    · exact bare_fits (u := .count) trivial h
    split at h
    · exact bare_fits (u := .great) trivial h
    split at h
    · exact bare_fits (u := .small) trivial h
    split at h
    · exact exch_fits hr h
    · cases h
theorem turnsG_fits : ∀ (ps : List (List UInt8)), (∀ p ∈ ps, p.length ≤ 1048576) → ∀ ts, turnsG ps = some (some ts) → (∀ t ∈ ts, t.fits) ∧ ts.length = ps.length
  | [], _, ts, h => by cases h; exact ⟨fun t ht => absurd ht (by simp), rfl⟩
  | p :: ps, hp, ts, h => by
    obtain ⟨S, hS⟩ := turn_told p
    obtain ⟨S2, hS2⟩ := turns_told ps
    simp only [turnsG, hS, hS2] at h
    cases S with
    | none => cases h
    | some t =>
      cases S2 with
      | none => cases h
      | some us =>
        cases h
        obtain ⟨h1, h2⟩ := turnsG_fits ps (fun q hq => hp q (List.mem_cons_of_mem _ hq)) us hS2
        refine ⟨fun u hu => ?_, by simp [h2]⟩
        rcases List.mem_cons.1 hu with rfl | hu
        · exact turn_fits (hp p (List.mem_cons_self)) hS
        · exact h1 u hu
theorem turns_fits {l : List UInt8} (hl : l.length ≤ 1048576) {ts : List Turn} (h : turnsF l = some (some ts)) : (∀ t ∈ ts, t.fits) ∧ ts.length = (splitG 59 [] l).length :=
  turnsG_fits _ (fun p hp => by have := splitG_short 59 l [] p hp; simp only [List.length_nil] at this; omega) ts h
/-- The document's turned, of every turn. -/
theorem turnedR_any (t : Turn) (ht : t.fits) (l : List UInt8) (hl : l.length ≤ 2147483647) (w : World) (h : NEnv w) : Calls Tryz.prog 121 #[turnV t, .string (str l)] w fun e w' => e = .returned (.string (str (docTurn t l))) ∧ Below w.heap.size w w' := by
  cases t with
  | cut n => exact turnedR_cut n ht l hl w
  | last n => exact turnedR_last n ht l hl w
  | behind n => exact turnedR_pad n ht false l hl w
  | ahead n => exact turnedR_pad n ht true l hl w
  | base => exact turnedR_slash true l hl w
  | folder => exact turnedR_slash false l hl w
  | count => exact turnedR_count l hl w h
  | great => exact turnedR_great l hl w
  | small => exact turnedR_small l hl w
  | exch x y => exact turnedR_exch x y l hl ht.1 (Nat.le_trans ht.2.1 (by decide)) (Nat.le_trans ht.2.2 (by decide)) w
/-- How long a turned text can be. -/
theorem turned_far {t : Turn} (ht : t.fits) {l : List UInt8} : (1024 < (t.of l).length ↔ 1024 < (docTurn t l).length) ∧ (¬ 1024 < (t.of l).length → docTurn t l = t.of l) := by
  rcases far_turn t ht l with h | ⟨h1, h2⟩
  · rw [h]; exact ⟨Iff.rfl, fun _ => rfl⟩
  · exact ⟨⟨fun _ => h2, fun _ => h1⟩, fun h => absurd h1 h⟩
def strAt (w : World) (v : Value) (ls : List (List UInt8)) : Prop := ∃ ad cap, v = .slice ad ls.length cap ∧ ∀ (i : Nat) (l : List UInt8), ls[i]? = some l → ∃ g o, ad = some ⟨g, o, none⟩ ∧ w.cell? ⟨g, o + i, none⟩ = some (.string (str l))
set_option maxHeartbeats 1000000 in
theorem isInR_any (l : List UInt8) (hl : l.length ≤ 2147483647) (ls : List (List UInt8)) (hls : ls.length ≤ 2147483647) (w : World) (v : Value) (hv : strAt w v ls) : Calls Tryz.prog 115 #[.string (str l), v] w fun e w' => e = .returned (.bool (decide (l ∈ ls))) ∧ w = w' := by
  obtain ⟨ad, cap, rfl, hat⟩ := hv
  obtain ⟨n, hn⟩ : ∃ n, ls.length = n := ⟨_, rfl⟩
  have HN := hidK hn
  have HC := hidK hat
  have hzl := str_toList l
  obtain ⟨z, hz⟩ : ∃ z, str l = z := ⟨_, rfl⟩
  rw [hz] at hzl ⊢
  have HZ := hidK hzl
  rw [hn] at hls ⊢
  obtain ⟨b, hb⟩ : ∃ b, decide (l ∈ ls) = b := ⟨_, rfl⟩
  rw [hb]
  have HB := hidK hb
  clear hat hn hz hzl hb
  go_enter Tryz.func115, Tryz.ntmps115
  go_wp2_with fail
  go_loopw [5] (fun s5 wx => ∃ (k : Nat), k ≤ n ∧ s5 = .int .i64 (k : Int) ∧ Hid (∀ i, i < k → ∀ p, ls[i]? = some p → p ≠ l) ∧ wx = w) (fun v _ => n - (intOf v).toNat)
  case atStart => exact ⟨0, Nat.zero_le _, rfl, fun i hi => by omega, rfl⟩
  case round =>
    obtain ⟨k, hk, rfl, HI, rfl⟩ := hrel
    by_cases hkn : k < n
    · obtain ⟨p, hp⟩ : ∃ p, ls[k]? = some p := ⟨_, List.getElem?_eq_getElem (by rw [HN.out]; exact hkn)⟩
      obtain ⟨g, o, rfl, hc0⟩ := HC.out k p hp
      have HPk := hidK hp
      have hyl := str_toList p
      obtain ⟨y, hy⟩ : ∃ y, str p = y := ⟨_, rfl⟩
      rw [hy] at hc0 hyl
      have hzl := HZ.out
      by_cases hpl : p = l
      · have k1 : (y.toList == z.toList) = true := by rw [hyl, hzl, hpl]; simp
        have k2 : y.toList = z.toList := by rw [hyl, hzl, hpl]
        have HQ : Hid (b = true) := by rw [← HB.out]; exact decide_eq_true (hpl ▸ List.mem_of_getElem? HPk.out)
        clear hp hy hyl hzl hpl
        go_wp2_with fail
        all_goals go_ret
        all_goals exact ⟨by rw [HQ.out]; rfl, rfl⟩
      · have k1 : (y.toList == z.toList) = false := by rw [hyl, hzl]; exact beq_eq_false_iff_ne.2 hpl
        have k2 : ¬ y.toList = z.toList := by rw [hyl, hzl]; exact hpl
        have HI2 : Hid (∀ i, i < k + 1 → ∀ p, ls[i]? = some p → p ≠ l) := fun i hi q hq => by
          by_cases e : i = k
          · subst e
            rw [HPk.out] at hq
            cases hq
            exact hpl
          · exact HI.out i (by omega) q hq
        clear hp hy hyl hzl hpl HI
        go_wp2_with fail
        all_goals (
          go_roundw
          case rel => exact ⟨k + 1, by omega, by go_num, HI2.out, by first | rfl | trivial⟩
          case measure => simp [intOf]; omega)
    · obtain rfl : k = n := by omega
      have HQ : Hid (b = false) := by
        rw [← HB.out]
        exact decide_eq_false fun hm => by
          obtain ⟨i, hi, he⟩ := List.mem_iff_getElem.1 hm
          exact HI.out i (by have := HN.out; omega) l (by rw [List.getElem?_eq_getElem hi, he]) rfl
      go_wp2_with fail
      all_goals go_ret
      all_goals exact ⟨by rw [HQ.out]; rfl, rfl⟩

end Go.Proofs.YtlfcjcaofhcfnaaGreatDoor

namespace Go.Proofs.YtlfcjcaofhcfnaaGreatDoor
open Go.RowKit
set_option linter.unusedVariables false
set_option maxRecDepth 100000

def cmpL : List (List UInt8) := [[61, 61], [33, 61], [60], [62], [60, 61], [62, 61]]
def sumL : List (List UInt8) := [[101, 124, 43, 124], [101, 124, 45, 124], [101, 124, 42, 124], [101, 124, 47, 124], [101, 124, 109, 124], [101, 124, 61, 61, 124], [101, 124, 60, 124], [101, 124, 62, 124]]
theorem strAt_new (w : World) (ls : List (List UInt8)) (cs : Array Value) (T : TypeId) (h : cs.toList = strsV ls) : strAt (w.alloc (.cells cs T)) (.slice (some ⟨w.heap.size, 0, none⟩) ls.length ls.length) ls := by
  refine ⟨_, _, rfl, fun i l hi => ⟨_, _, rfl, ?_⟩⟩
  have h1 := cell_atT (heap_alloc_new w (.cells cs T)) (0 + i)
  rw [h1]
  rw [Nat.zero_add, ← Array.getElem?_toList, h]
  unfold strsV
  rw [List.getElem?_map, hi]
  rfl
set_option maxHeartbeats 1000000 in
theorem compares_any (w : World) : Calls Tryz.prog 116 #[] w fun e w' => ∃ v, e = .returned v ∧ strAt w' v cmpL ∧ Below w.heap.size w w' := by
  go_enter Tryz.func116, Tryz.ntmps116
  go_wp2_with fail
  all_goals go_ret
  all_goals exact ⟨_, rfl, strAt_new w cmpL _ _ rfl, (Below.refl _ _).alloc (Nat.le_refl _) _⟩
set_option maxHeartbeats 1000000 in
theorem sumsL_any (w : World) : Calls Tryz.prog 117 #[] w fun e w' => ∃ v, e = .returned v ∧ strAt w' v sumL ∧ Below w.heap.size w w' := by
  go_enter Tryz.func117, Tryz.ntmps117
  go_wp2_with fail
  all_goals go_ret
  all_goals exact ⟨_, rfl, strAt_new w sumL _ _ rfl, (Below.refl _ _).alloc (Nat.le_refl _) _⟩

end Go.Proofs.YtlfcjcaofhcfnaaGreatDoor
