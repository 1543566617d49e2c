/-
  Layouts: stretching, by a relation (what becomes of a tree by so many lines in a direction); where there is room, there is such a tree, and it is a sound one.
  Layouts: stretch, of every tree, in the program.
-/
import Derived.Test.YtnepemlagnnngaaCNx
import Derived.Test.YtnepemlagnnngaaCPa
namespace Go.Proofs.Ytnepemlagnnngaa
open Go.RowKit
set_option linter.unusedVariables false
set_option maxRecDepth 20000

def sg (n : Int) : Int := if n < 0 then -1 else 1
/-- What every step may lean on. -/
structure StrOk (t : Tree) (j n : Int) : Prop where
  dir : j = 2 ∨ j = 3
  sound : t.sound = true
  kinds : t.kinds
  size : t.size ≤ 900
  low : -1000 ≤ n
  high : n ≤ 1000

mutual
/-- A tree by so many lines in a direction. -/
inductive Str : Tree → Int → Int → Tree → Prop
  | leaf (b : Box) (p j n : Int) : StrOk (.leaf b p) j n → Str (.leaf b p) j n (.leaf (b.str j n) p)
  | across (b : Box) (k : Int) (ts : List Tree) (j n : Int) (rs : List Tree) : StrOk (.split b k ts) j n → j ≠ k → rs.length = ts.length → (∀ (i : Nat) (t r : Tree), ts[i]? = some t → rs[i]? = some r → Str t j n r) → Str (.split b k ts) j n (.split (b.str j n) k rs)
  | along (b : Box) (k : Int) (ts : List Tree) (n : Int) (m : Nat) (rs : List Tree) : StrOk (.split b k ts) k n → Deal k m ts 0 n rs → Str (.split b k ts) k n (.split (b.str k n) k rs)
/-- Single lines are dealt out, from a part on; so many steps are left. -/
inductive Deal : Int → Nat → List Tree → Nat → Int → List Tree → Prop
  | done (k : Int) (ts : List Tree) (i : Nat) : i < ts.length → Deal k 0 ts i 0 ts
  | skip (k : Int) (m : Nat) (ts : List Tree) (i : Nat) (n : Int) (rs : List Tree) (t : Tree) : n < 0 → -1000 ≤ n → ts[i]? = some t → t.sound = true → t.kinds → t.size ≤ 900 → t.room k = 0 → Deal k m ts ((i + 1) % ts.length) n rs → Deal k (m + 1) ts i n rs
  | give (k : Int) (m : Nat) (ts : List Tree) (i : Nat) (n : Int) (rs : List Tree) (t t' : Tree) : n ≠ 0 → (-1000 ≤ n ∧ n ≤ 1000) → ts[i]? = some t → t.sound = true → t.kinds → t.size ≤ 900 → (n < 0 → 0 < t.room k) → t'.size = t.size → Str t k (sg n) t' → Deal k m (ts.set i t') ((i + 1) % ts.length) (n - sg n) rs → Deal k (m + 1) ts i n rs
end

theorem Str.ok {t : Tree} {j n : Int} {t' : Tree} (h : Str t j n t') : StrOk t j n := by
  cases h with
  | leaf b p j n h => exact h
  | across b k ts j n rs h => exact h
  | along b k ts n m rs h => exact h

theorem Box.ext_str (b : Box) (j n : Int) : (b.str j n).ext j = b.ext j + n := by
  unfold Box.str Box.ext
  split <;> simp
theorem Box.ext_other (b : Box) (j n q : Int) (hj : j = 2 ∨ j = 3) (hq : q = 2 ∨ q = 3) (h : q ≠ j) : (b.str j n).ext q = b.ext q := by
  rcases hj with rfl | rfl <;> rcases hq with rfl | rfl <;> first | rfl | exact absurd rfl h
theorem Box.str_zero (b : Box) (j : Int) : b.str j 0 = b := by
  unfold Box.str
  split <;> simp
theorem across_is (k : Int) (hk : k = 2 ∨ k = 3) : (acrossK k = 2 ∨ acrossK k = 3) ∧ acrossK k ≠ k := by rcases hk with rfl | rfl <;> decide
theorem is_across (j k : Int) (hj : j = 2 ∨ j = 3) (hk : k = 2 ∨ k = 3) (h : j ≠ k) : j = acrossK k := by rcases hj with rfl | rfl <;> rcases hk with rfl | rfl <;> first | rfl | exact absurd rfl h
theorem sides_ext (b : Box) (q : Int) (h : (1 ≤ b.w ∧ b.w ≤ 1000) ∧ (1 ≤ b.h ∧ b.h ≤ 1000)) : 1 ≤ b.ext q ∧ b.ext q ≤ 1000 := by
  unfold Box.ext
  split
  · exact h.1
  · exact h.2
theorem sides_str (b : Box) (j n : Int) (hj : j = 2 ∨ j = 3) (h : (1 ≤ b.w ∧ b.w ≤ 1000) ∧ (1 ≤ b.h ∧ b.h ≤ 1000)) (h1 : 1 ≤ b.ext j + n) (h2 : b.ext j + n ≤ 1000) : (sideB (b.str j n).w && sideB (b.str j n).h) = true := by
  rcases hj with rfl | rfl
  · change 1 ≤ b.w + n at h1
    change b.w + n ≤ 1000 at h2
    show (sideB (b.w + n) && sideB b.h) = true
    simp only [sideB, Bool.and_eq_true, decide_eq_true_eq]
    omega
  · change 1 ≤ b.h + n at h1
    change b.h + n ≤ 1000 at h2
    show (sideB b.w && sideB (b.h + n)) = true
    simp only [sideB, Bool.and_eq_true, decide_eq_true_eq]
    omega

mutual
theorem room_le : ∀ (t : Tree) (j : Int), (j = 2 ∨ j = 3) → t.kinds → t.sound = true → t.room j ≤ t.box.ext j - 1
  | .leaf b p, j, hj, hk, hs => Int.le_refl _
  | .split b k ts, j, hj, hk, hs => by
    unfold Tree.sound at hs
    simp only [Bool.and_eq_true, decide_eq_true_eq] at hs
    have h := rooms_le ts b k j hj hk.1 hk.2 hs.2.1
    show (if j = k then roomAll ts j else roomLeast ts j) ≤ b.ext j - 1
    have h2 := hs.1.1
    have h3 := hs.2.2
    split
    · rename_i e
      subst e
      have := h.1
      omega
    · rename_i e
      have := is_across j k hj hk.1 e
      exact h.2 this (by intro h4; rw [h4] at h2; simp at h2)
theorem rooms_le : ∀ (ts : List Tree) (b : Box) (k j : Int), (j = 2 ∨ j = 3) → (k = 2 ∨ k = 3) → kindsAll ts → soundAll ts b k = true → roomAll ts j ≤ extAll ts j + 1 - 2 * (ts.length : Int) ∧ (j = acrossK k → ts ≠ [] → roomLeast ts j ≤ b.ext j - 1)
  | [], b, k, j, hj, hk0, hk, hs => by
    refine ⟨?_, fun _ h => absurd rfl h⟩
    show (0 : Int) ≤ -1 + 1 - 2 * ((0 : Nat) : Int)
    omega
  | t :: ts, b, k, j, hj, hk0, hk, hs => by
    unfold soundAll at hs
    simp only [Bool.and_eq_true, decide_eq_true_eq] at hs
    have h1 := room_le t j hj hk.1 hs.1.1
    have h2 := (rooms_le ts b k j hj hk0 hk.2 hs.2).1
    refine ⟨?_, fun e _ => ?_⟩
    · show t.room j + roomAll ts j ≤ t.box.ext j + 1 + extAll ts j + 1 - 2 * ((ts.length + 1 : Nat) : Int)
      omega
    · show min (t.room j) (roomLeast ts j) ≤ b.ext j - 1
      have h3 := hs.1.2.2
      rw [← e] at h3
      omega
end

/-- What a stretched tree is. -/
structure Grew (t : Tree) (j n : Int) (t' : Tree) : Prop where
  sound : t'.sound = true
  kinds : t'.kinds
  size : t'.size = t.size
  box : t'.box = t.box.str j n
  kind : ∀ q, t'.kindIs q = t.kindIs q
  room : t'.room j = t.room j + n
  other : ∀ q, (q = 2 ∨ q = 3) → q ≠ j → t'.room q = t.room q
  ids : t'.idl = t.idl

/-- One part of a list is stretched. -/
structure Set1 (ts : List Tree) (b : Box) (k s : Int) (rs : List Tree) : Prop where
  len : rs.length = ts.length
  sizes : sizes rs = sizes ts
  ext : extAll rs k = extAll ts k + s
  rooms : roomAll rs k = roomAll ts k + s
  least : roomLeast rs (acrossK k) = roomLeast ts (acrossK k)
  sound : soundAll rs b k = true
  kinds : kindsAll rs
  ids : idls rs = idls ts

theorem set_one (t t' : Tree) (b : Box) (k s : Int) (hk : k = 2 ∨ k = 3) (G : Grew t k s t') : ∀ (ts : List Tree) (i : Nat), ts[i]? = some t → soundAll ts b k = true → kindsAll ts → Set1 ts b k s (ts.set i t')
  | [], i, h, _, _ => by simp at h
  | a :: ts, 0, h, hs, hks => by
    simp at h
    subst h
    unfold soundAll at hs
    simp only [Bool.and_eq_true, decide_eq_true_eq] at hs
    have ha := across_is k hk
    refine ⟨by simp, ?_, ?_, ?_, ?_, ?_, ⟨G.kinds, hks.2⟩, ?_⟩
    · show t'.size + Go.Proofs.Ytnepemlagnnngaa.sizes ts = a.size + Go.Proofs.Ytnepemlagnnngaa.sizes ts
      rw [G.size]
    · show t'.box.ext k + 1 + extAll ts k = a.box.ext k + 1 + extAll ts k + s
      rw [G.box, Box.ext_str]
      omega
    · show t'.room k + roomAll ts k = a.room k + roomAll ts k + s
      rw [G.room]
      omega
    · show min (t'.room (acrossK k)) (roomLeast ts (acrossK k)) = min (a.room (acrossK k)) (roomLeast ts (acrossK k))
      rw [G.other _ ha.1 ha.2]
    · show soundAll (t' :: ts) b k = true
      unfold soundAll
      simp only [Bool.and_eq_true, decide_eq_true_eq]
      refine ⟨⟨G.sound, ?_, ?_⟩, hs.2⟩
      · rw [G.kind]
        exact hs.1.2.1
      · rw [G.box, Box.ext_other _ _ _ _ hk ha.1 ha.2]
        exact hs.1.2.2
    · show t'.idl ++ idls ts = a.idl ++ idls ts
      rw [G.ids]
  | a :: ts, i + 1, h, hs, hks => by
    unfold soundAll at hs
    simp only [Bool.and_eq_true, decide_eq_true_eq] at hs
    have ih := set_one t t' b k s hk G ts i (by simpa using h) hs.2 hks.2
    refine ⟨by simp, ?_, ?_, ?_, ?_, ?_, ⟨hks.1, ih.kinds⟩, ?_⟩
    · show a.size + Go.Proofs.Ytnepemlagnnngaa.sizes (ts.set i t') = a.size + Go.Proofs.Ytnepemlagnnngaa.sizes ts
      rw [ih.sizes]
    · show a.box.ext k + 1 + extAll (ts.set i t') k = a.box.ext k + 1 + extAll ts k + s
      rw [ih.ext]
      omega
    · show a.room k + roomAll (ts.set i t') k = a.room k + roomAll ts k + s
      rw [ih.rooms]
      omega
    · show min (a.room (acrossK k)) (roomLeast (ts.set i t') (acrossK k)) = min (a.room (acrossK k)) (roomLeast ts (acrossK k))
      rw [ih.least]
    · show soundAll (a :: ts.set i t') b k = true
      unfold soundAll
      simp only [Bool.and_eq_true, decide_eq_true_eq]
      exact ⟨hs.1, ih.sound⟩
    · show a.idl ++ idls (ts.set i t') = a.idl ++ idls ts
      rw [ih.ids]

theorem Set1.trans {ts rs us : List Tree} {b : Box} {k s s' : Int} (h : Set1 ts b k s rs) (h' : Set1 rs b k s' us) : Set1 ts b k (s + s') us :=
  ⟨h'.len.trans h.len, h'.sizes.trans h.sizes, by rw [h'.ext, h.ext]; omega, by rw [h'.rooms, h.rooms]; omega, h'.least.trans h.least, h'.sound, h'.kinds, h'.ids.trans h.ids⟩

/-- That a tree can be stretched where there is room. -/
def Can (t : Tree) : Prop := ∀ j n, (j = 2 ∨ j = 3) → t.sound = true → t.kinds → t.size ≤ 900 → 0 ≤ t.room j + n → t.box.ext j + n ≤ 1000 → ∃ t', Str t j n t' ∧ Grew t j n t'

theorem kindsAll_at : ∀ (ts : List Tree) (i : Nat) (t : Tree), ts[i]? = some t → kindsAll ts → t.kinds
  | [], i, t, h, _ => by simp at h
  | a :: ts, 0, t, h, hk => by simp at h; subst h; exact hk.1
  | a :: ts, i + 1, t, h, hk => kindsAll_at ts i t (by simpa using h) hk.2
theorem sizes_at : ∀ (ts : List Tree) (i : Nat) (t : Tree), ts[i]? = some t → t.size ≤ sizes ts
  | [], i, t, h => by simp at h
  | a :: ts, 0, t, h => by
    simp at h
    subst h
    show a.size ≤ a.size + sizes ts
    omega
  | a :: ts, i + 1, t, h => by
    have := sizes_at ts i t (by simpa using h)
    show t.size ≤ a.size + sizes ts
    omega
theorem ext_at : ∀ (ts : List Tree) (b : Box) (k : Int) (i : Nat) (t : Tree), ts[i]? = some t → soundAll ts b k = true → t.box.ext k ≤ extAll ts k ∧ -1 ≤ extAll ts k
  | [], b, k, i, t, h, hs => by simp at h
  | a :: ts, b, k, i, t, h, hs => by
    unfold soundAll at hs
    simp only [Bool.and_eq_true, decide_eq_true_eq] at hs
    have h1 := sides_ext a.box k (a.sound_sides hs.1.1)
    have h2 : ∀ ts : List Tree, soundAll ts b k = true → -1 ≤ extAll ts k := by
      intro ts
      induction ts with
      | nil => intro _; exact Int.le_refl _
      | cons c cs ih =>
        intro hc
        unfold soundAll at hc
        simp only [Bool.and_eq_true, decide_eq_true_eq] at hc
        have h3 := sides_ext c.box k (c.sound_sides hc.1.1)
        have h4 := ih hc.2
        show -1 ≤ c.box.ext k + 1 + extAll cs k
        omega
    have h5 := h2 ts hs.2
    show t.box.ext k ≤ a.box.ext k + 1 + extAll ts k ∧ -1 ≤ a.box.ext k + 1 + extAll ts k
    cases i with
    | zero =>
      simp at h
      subst h
      omega
    | succ i =>
      have := (ext_at ts b k i t (by simpa using h) hs.2).1
      omega
theorem room_at : ∀ (ts : List Tree) (b : Box) (k j : Int) (i : Nat) (t : Tree), ts[i]? = some t → soundAll ts b k = true → t.room j ≤ roomAll ts j
  | [], b, k, j, i, t, h, hs => by simp at h
  | a :: ts, b, k, j, i, t, h, hs => by
    unfold soundAll at hs
    simp only [Bool.and_eq_true, decide_eq_true_eq] at hs
    have h1 := room_bound a j hs.1.1
    have h2 := (rooms_bound ts b k j hs.2).1
    show t.room j ≤ a.room j + roomAll ts j
    cases i with
    | zero =>
      simp at h
      subst h
      omega
    | succ i =>
      have := room_at ts b k j i t (by simpa using h) hs.2
      omega
/-- Where there is room in all, one part has some. -/
theorem some_room : ∀ (ts : List Tree) (j : Int), 0 < roomAll ts j → ∃ (i : Nat) (t : Tree), ts[i]? = some t ∧ 0 < t.room j
  | [], j, h => by
    change (0 : Int) < 0 at h
    omega
  | a :: ts, j, h => by
    by_cases h1 : 0 < a.room j
    · exact ⟨0, a, rfl, h1⟩
    · change 0 < a.room j + roomAll ts j at h
      obtain ⟨i, t, h2, h3⟩ := some_room ts j (by omega)
      exact ⟨i + 1, t, h2, h3⟩

theorem step_mod (i d L : Nat) (hi : i < L) (hd : 0 < d) : ((i + 1) % L + (d - 1)) % L = (i + d) % L := by
  rw [Nat.mod_add_mod]
  congr 1
  omega

/-- Lines are dealt out. -/
theorem deal_any (b : Box) (k : Int) (hk : k = 2 ∨ k = 3) (N : Nat) (IH : ∀ t, t.size ≤ N → Can t) (hN : N ≤ 900) : ∀ (a : Nat) (n : Int), n.natAbs = a → ∀ (ts : List Tree) (i : Nat), i < ts.length → soundAll ts b k = true → kindsAll ts → sizes ts ≤ N → -1000 ≤ n → 0 ≤ roomAll ts k + n → extAll ts k + n ≤ 1000 → ∃ m rs, Deal k m ts i n rs ∧ Set1 ts b k n rs := by
  intro a
  induction a with
  | zero =>
    intro n hn ts i hi hs hks hz hlo hr he
    have : n = 0 := Int.natAbs_eq_zero.1 hn
    subst this
    exact ⟨0, ts, .done k ts i hi, rfl, rfl, by omega, by omega, rfl, hs, hks, rfl⟩
  | succ a ih =>
    intro n hn ts i hi hs hks hz hlo hr he
    have give : ∀ (i : Nat) (t : Tree), ts[i]? = some t → i < ts.length → (n < 0 → 0 < t.room k) → ∃ m rs, Deal k m ts i n rs ∧ Set1 ts b k n rs := by
      intro i t ht hi hpos
      have hsd := soundAll_at ts b k i t ht hs
      simp only [Bool.and_eq_true, decide_eq_true_eq] at hsd
      have hsz := sizes_at ts i t ht
      have hkt := kindsAll_at ts i t ht hks
      have hext := ext_at ts b k i t ht hs
      have hrm := room_bound t k hsd.1
      have hside := sides_ext t.box k (t.sound_sides hsd.1)
      have hsg1 : 0 ≤ t.room k + sg n := by
        unfold sg
        split
        · have := hpos (by assumption)
          omega
        · omega
      obtain ⟨t', h1, h2⟩ := IH t (by omega) k (sg n) hk hsd.1 hkt (by omega) hsg1 (by unfold sg; split <;> omega)
      have hset := set_one t t' b k (sg n) hk h2 ts i ht hs hks
      obtain ⟨m, rs, h3, h4⟩ := ih (n - sg n) (by unfold sg; split <;> omega) (ts.set i t') ((i + 1) % ts.length) (by rw [List.length_set]; exact Nat.mod_lt _ (by omega)) hset.sound hset.kinds (by rw [hset.sizes]; exact hz) (by unfold sg; split <;> omega) (by rw [hset.rooms]; omega) (by rw [hset.ext]; omega)
      have hL : -1 ≤ extAll ts k := hext.2
      refine ⟨m + 1, rs, .give k m ts i n rs t t' (by omega) (by omega) ht hsd.1 hkt (by omega) hpos h2.size h1 h3, ?_⟩
      have := hset.trans h4
      rwa [show sg n + (n - sg n) = n by omega] at this
    by_cases hneg : n < 0
    · obtain ⟨i0, t0, h1, h2⟩ := some_room ts k (by omega)
      have hi0 : i0 < ts.length := by
        rcases Nat.lt_or_ge i0 ts.length with h | h
        · exact h
        · rw [List.getElem?_eq_none h] at h1
          cases h1
      have walk : ∀ (d i : Nat), i < ts.length → (i + d) % ts.length = i0 → ∃ m rs, Deal k m ts i n rs ∧ Set1 ts b k n rs := by
        intro d
        induction d with
        | zero =>
          intro i hi he0
          rw [Nat.add_zero, Nat.mod_eq_of_lt hi] at he0
          subst he0
          exact give i t0 h1 hi fun _ => h2
        | succ d ihd =>
          intro i hi he0
          obtain ⟨t, ht⟩ : ∃ t, ts[i]? = some t := ⟨_, List.getElem?_eq_getElem hi⟩
          have hsd := soundAll_at ts b k i t ht hs
          simp only [Bool.and_eq_true, decide_eq_true_eq] at hsd
          have hrm := room_bound t k hsd.1
          by_cases h0 : t.room k = 0
          · obtain ⟨m, rs, h3, h4⟩ := ihd ((i + 1) % ts.length) (Nat.mod_lt _ (by omega)) (by have := step_mod i (d + 1) ts.length hi (by omega); rw [Nat.add_sub_cancel] at this; rw [this]; exact he0)
            have hsz := sizes_at ts i t ht
            exact ⟨m + 1, rs, .skip k m ts i n rs t hneg hlo ht hsd.1 (kindsAll_at ts i t ht hks) (by omega) h0 h3, h4⟩
          · exact give i t ht hi fun _ => by omega
      refine walk (i0 + (ts.length - i)) i hi ?_
      rw [show i + (i0 + (ts.length - i)) = i0 + ts.length by omega, Nat.add_mod_right, Nat.mod_eq_of_lt hi0]
    · exact give i _ (List.getElem?_eq_getElem hi) hi fun h => absurd h hneg

/-- All parts of a list are stretched. -/
structure SetAll (ts : List Tree) (b : Box) (k n : Int) (rs : List Tree) : Prop where
  len : rs.length = ts.length
  each : ∀ (i : Nat) (t r : Tree), ts[i]? = some t → rs[i]? = some r → Str t (acrossK k) n r
  sizes : sizes rs = sizes ts
  ext : extAll rs k = extAll ts k
  rooms : roomAll rs k = roomAll ts k
  least : ts ≠ [] → roomLeast rs (acrossK k) = roomLeast ts (acrossK k) + n
  sound : soundAll rs (b.str (acrossK k) n) k = true
  kinds : kindsAll rs
  ids : idls rs = idls ts

theorem all_any (b : Box) (k : Int) (hk : k = 2 ∨ k = 3) (n : Int) : ∀ (ts : List Tree), (∀ t ∈ ts, Can t) → soundAll ts b k = true → kindsAll ts → sizes ts ≤ 900 → 0 ≤ roomLeast ts (acrossK k) + n → b.ext (acrossK k) + n ≤ 1000 → ∃ rs, SetAll ts b k n rs
  | [], _, hs, hks, hz, hr, he => ⟨[], rfl, fun i t r h => by simp at h, rfl, rfl, rfl, fun h => absurd rfl h, rfl, trivial, rfl⟩
  | a :: ts, IH, hs, hks, hz, hr, he => by
    have ha := across_is k hk
    unfold soundAll at hs
    simp only [Bool.and_eq_true, decide_eq_true_eq] at hs
    change a.size + sizes ts ≤ 900 at hz
    change 0 ≤ min (a.room (acrossK k)) (roomLeast ts (acrossK k)) + n at hr
    obtain ⟨rs, h⟩ := all_any b k hk n ts (fun t ht => IH t (List.mem_cons_of_mem _ ht)) hs.2 hks.2 (by omega) (by omega) he
    obtain ⟨r, h1, h2⟩ := IH a List.mem_cons_self (acrossK k) n ha.1 hs.1.1 hks.1 (by omega) (by omega) (by rw [hs.1.2.2]; exact he)
    refine ⟨r :: rs, by simp [h.len], ?_, ?_, ?_, ?_, ?_, ?_, ⟨h2.kinds, h.kinds⟩, ?_⟩
    · intro i t r' e1 e2
      cases i with
      | zero =>
        simp at e1 e2
        subst e1 e2
        exact h1
      | succ i => exact h.each i t r' (by simpa using e1) (by simpa using e2)
    · show r.size + Go.Proofs.Ytnepemlagnnngaa.sizes rs = a.size + Go.Proofs.Ytnepemlagnnngaa.sizes ts
      rw [h2.size, h.sizes]
    · show r.box.ext k + 1 + extAll rs k = a.box.ext k + 1 + extAll ts k
      rw [h.ext, h2.box, Box.ext_other _ _ _ _ ha.1 hk (Ne.symm ha.2)]
    · show r.room k + roomAll rs k = a.room k + roomAll ts k
      rw [h.rooms, h2.other k hk (Ne.symm ha.2)]
    · intro _
      show min (r.room (acrossK k)) (roomLeast rs (acrossK k)) = min (a.room (acrossK k)) (roomLeast ts (acrossK k)) + n
      rw [h2.room]
      have hrl := room_le a (acrossK k) ha.1 hks.1 hs.1.1
      have hrs := room_le r (acrossK k) ha.1 h2.kinds h2.sound
      rw [h2.room, h2.box, Box.ext_str] at hrs
      have hx := hs.1.2.2
      have hb := sides_ext a.box (acrossK k) (a.sound_sides hs.1.1)
      cases hts : ts with
      | nil =>
        have : rs = [] := by
          have := h.len
          rw [hts] at this
          exact List.length_eq_zero_iff.1 this
        subst this
        show min (a.room (acrossK k) + n) 1000 = min (a.room (acrossK k)) 1000 + n
        omega
      | cons c cs =>
        rw [← hts, h.least (by rw [hts]; simp)]
        omega
    · show soundAll (r :: rs) (b.str (acrossK k) n) k = true
      unfold soundAll
      simp only [Bool.and_eq_true, decide_eq_true_eq]
      refine ⟨⟨h2.sound, ?_, ?_⟩, h.sound⟩
      · rw [h2.kind]
        exact hs.1.2.1
      · rw [h2.box, Box.ext_str, Box.ext_str, hs.1.2.2]
    · show r.idl ++ idls rs = a.idl ++ idls ts
      rw [h2.ids, h.ids]

theorem can_all : ∀ (N : Nat) (t : Tree), t.size ≤ N → Can t := by
  intro N
  induction N with
  | zero =>
    intro t ht
    have := t.size_pos
    omega
  | succ N ih =>
    intro t ht j n hj hs hks hz hr he
    have hrl := room_le t j hj hks hs
    have hsd := t.sound_sides hs
    have hx := sides_ext t.box j hsd
    have hok : StrOk t j n := ⟨hj, hs, hks, hz, by omega, by omega⟩
    cases t with
    | leaf b p =>
      refine ⟨_, .leaf b p j n hok, ?_, trivial, rfl, rfl, fun q => rfl, ?_, ?_, rfl⟩
      · unfold Tree.sound at hs ⊢
        rw [Bool.and_eq_true] at hs ⊢
        exact ⟨sides_str b j n hj hsd (by change b.ext j - 1 ≤ b.ext j - 1 at hrl; change 0 ≤ b.ext j - 1 + n at hr; omega) he, hs.2⟩
      · show (b.str j n).ext j - 1 = b.ext j - 1 + n
        rw [Box.ext_str]
        omega
      · intro q hq hne
        show (b.str j n).ext q - 1 = b.ext q - 1
        rw [Box.ext_other b j n q hj hq hne]
    | split b k ts =>
      have hs' := hs
      unfold Tree.sound at hs'
      simp only [Bool.and_eq_true, decide_eq_true_eq] at hs'
      obtain ⟨hk, hkl⟩ := hks
      change 1 + sizes ts ≤ 900 at hz
      change 1 + sizes ts ≤ N + 1 at ht
      by_cases hjk : j = k
      · subst hjk
        have hroom : (Tree.split b j ts).room j = roomAll ts j := if_pos rfl
        rw [hroom] at hr hrl
        obtain ⟨m, rs, h1, h2⟩ := deal_any b j hk (min N 900) (fun t h => ih t (by omega)) (by omega) n.natAbs n rfl ts 0 (by omega) hs'.2.1 hkl (by omega) (by have := hok.low; omega) hr (by rw [hs'.2.2]; exact he)
        refine ⟨_, .along b j ts n m rs hok h1, ?_, ⟨hk, h2.kinds⟩, ?_, rfl, fun q => rfl, ?_, ?_, h2.ids⟩
        · unfold Tree.sound
          have ha := across_is j hk
          simp only [Bool.and_eq_true, decide_eq_true_eq]
          refine ⟨⟨by rw [h2.len]; exact hs'.1.1, ?_⟩, ?_, ?_⟩
          · have := sides_str b j n hk hsd (by change _ ≤ b.ext j - 1 at hrl; omega) he
            rwa [Bool.and_eq_true] at this
          · have e : ∀ (us : List Tree), soundAll us (b.str j n) j = soundAll us b j := by
              intro us
              induction us with
              | nil => rfl
              | cons u us ihu =>
                unfold soundAll
                rw [ihu, Box.ext_other b j n (acrossK j) hk ha.1 ha.2]
            rw [e]
            exact h2.sound
          · rw [h2.ext, Box.ext_str, hs'.2.2]
        · show 1 + sizes rs = 1 + sizes ts
          rw [h2.sizes]
        · rw [hroom]
          show (if j = j then roomAll rs j else roomLeast rs j) = _
          rw [if_pos rfl, h2.rooms]
        · intro q hq hne
          show (if q = j then roomAll rs q else roomLeast rs q) = (if q = j then roomAll ts q else roomLeast ts q)
          rw [if_neg hne, if_neg hne, is_across q j hq hk hne, h2.least]
      · have hja := is_across j k hj hk hjk
        have hroom : (Tree.split b k ts).room j = roomLeast ts j := if_neg hjk
        rw [hroom] at hr hrl
        have ha := across_is k hk
        subst hja
        obtain ⟨rs, h⟩ := all_any b k hk n ts (fun t htm => by
          obtain ⟨i, hi⟩ := List.getElem?_of_mem htm
          have := sizes_at ts i t hi
          exact ih t (by omega)) hs'.2.1 hkl (by omega) hr he
        refine ⟨_, .across b k ts (acrossK k) n rs hok hjk h.len h.each, ?_, ⟨hk, h.kinds⟩, ?_, rfl, fun q => rfl, ?_, ?_, h.ids⟩
        · unfold Tree.sound
          simp only [Bool.and_eq_true, decide_eq_true_eq]
          refine ⟨⟨by rw [h.len]; exact hs'.1.1, ?_⟩, h.sound, ?_⟩
          · have := sides_str b (acrossK k) n ha.1 hsd (by change _ ≤ b.ext _ - 1 at hrl; omega) he
            rwa [Bool.and_eq_true] at this
          · rw [h.ext, Box.ext_other _ _ _ _ ha.1 hk (Ne.symm ha.2), hs'.2.2]
        · show 1 + sizes rs = 1 + sizes ts
          rw [h.sizes]
        · rw [hroom]
          show (if acrossK k = k then roomAll rs (acrossK k) else roomLeast rs (acrossK k)) = _
          rw [if_neg ha.2, h.least (by intro e; have := hs'.1.1; rw [e] at this; simp at this)]
        · intro q hq hne
          have hqk : q = k := by rcases hk with rfl | rfl <;> rcases hq with rfl | rfl <;> first | rfl | exact absurd rfl hne
          subst hqk
          show (if q = q then roomAll rs q else roomLeast rs q) = (if q = q then roomAll ts q else roomLeast ts q)
          rw [if_pos rfl, if_pos rfl, h.rooms]

/-- A sound tree with room can be stretched. -/
theorem can_str (t : Tree) : Can t := can_all t.size t (Nat.le_refl _)

theorem str_zero : ∀ (N : Nat) (t : Tree), t.size ≤ N → ∀ j t', Str t j 0 t' → t' = t := by
  intro N
  induction N with
  | zero =>
    intro t ht
    have := t.size_pos
    omega
  | succ N ih =>
    intro t ht j t' h
    cases h with
    | leaf b p j n hok => rw [Box.str_zero]
    | across b k ts j n rs hok hne hlen heach =>
      change 1 + sizes ts ≤ N + 1 at ht
      have : rs = ts := by
        apply List.ext_getElem? 
        intro i
        rcases Nat.lt_or_ge i ts.length with hi | hi
        · have e1 : ts[i]? = some ts[i] := List.getElem?_eq_getElem hi
          have e2 : rs[i]? = some (rs[i]'(by omega)) := List.getElem?_eq_getElem (by omega)
          have := sizes_at ts i _ e1
          rw [e1, e2, ih _ (by omega) j _ (heach i _ _ e1 e2)]
        · rw [List.getElem?_eq_none hi, List.getElem?_eq_none (by omega)]
      rw [this, Box.str_zero]
    | along b k ts n m rs hok hd =>
      cases hd with
      | done k ts i hi => rw [Box.str_zero]
      | skip k m ts i n rs t hneg => exact absurd hneg (by decide)
      | give k m ts i n rs t t' hne => exact absurd rfl hne

end Go.Proofs.Ytnepemlagnnngaa

namespace Go.Proofs.Ytnepemlagnnngaa
open Go.RowKit
set_option linter.unusedVariables false
set_option maxRecDepth 100000

theorem exists_least (P : Nat → Prop) (h : ∃ m, P m) : ∃ m, P m ∧ ∀ k, P k → m ≤ k := by
  obtain ⟨m, hm⟩ := h
  induction m using Nat.strongRecOn with
  | ind m ih =>
    by_cases h : ∃ k, k < m ∧ P k
    · obtain ⟨k, h1, h2⟩ := h
      exact ih k h1 h2
    · exact ⟨m, hm, fun k hk => Nat.le_of_not_lt fun hlt => h ⟨k, hlt, hk⟩⟩
open Classical in
/-- The least number of which something holds. -/
noncomputable def leastM (P : Nat → Prop) : Nat := if h : ∃ m, P m then Classical.choose (exists_least P h) else 0
theorem leastM_is {P : Nat → Prop} (h : ∃ m, P m) : P (leastM P) := by
  unfold leastM
  rw [dif_pos h]
  exact (Classical.choose_spec (exists_least P h)).1
theorem leastM_le {P : Nat → Prop} {m : Nat} (h : P m) : leastM P ≤ m := by
  have h' : ∃ m, P m := ⟨m, h⟩
  unfold leastM
  rw [dif_pos h']
  exact (Classical.choose_spec (exists_least P h')).2 m h

theorem split_stretches (g : Nat) (b : Box) (k0 : Int) (sl : Value) (k n : Int) (w : World) (h : SplitAt w g b k0 sl) (h1 : -1000000 ≤ b.w ∧ b.w ≤ 1000000) (h2 : -1000000 ≤ b.h ∧ b.h ≤ 1000000) (h3 : -1000000 ≤ n ∧ n ≤ 1000000) :
    Calls Try.prog 30 #[.pointer (some ⟨g, 0, none⟩), .int .i64 k, .int .i64 n] w fun e w' => e = .returned (.tuple #[]) ∧ SplitAt w' g (b.str k n) k0 sl ∧ w.grownBy w' (some g) := by
  obtain ⟨q0, q1, q2, q3, qf⟩ := h.box
  have f2 := qf 2 (by decide)
  have f3 := qf 3 (by decide)
  have HL : Hid (SplitAt w g b k0 sl) := h
  have w1 : IntKind.i64.wrap (b.w + n) = b.w + n := by rw [IntKind.wrap_i64]; omega
  have w2 : IntKind.i64.wrap (b.h + n) = b.h + n := by rw [IntKind.wrap_i64]; omega
  clear qf h h1 h2 h3
  by_cases hk : k = 2
  · subst hk
    go_enter Try.func30, Try.ntmps30
    go_wp2
    exact ⟨rfl, .tuple #[], (by simp [results, Try.results30, go_sem]), rfl, HL.out.set 2 (.int .i64 (b.w + n)) (b' := b.str 2 n) rfl, grownBy_set _ _ _ _⟩
  · have hk2 : (k == 2) = false := by simpa using hk
    have hst : b.str k n = { b with h := b.h + n } := if_neg hk
    rw [hst]
    go_enter Try.func30, Try.ntmps30
    go_wp2
    exact ⟨rfl, .tuple #[], (by simp [results, Try.results30, go_sem]), rfl, HL.out.set 3 (.int .i64 (b.h + n)) (b' := { b with h := b.h + n }) rfl, grownBy_set _ _ _ _⟩

/-- What stretch wants of a part. -/
structure PartX (B : Nat) (v : Value) (t : Tree) (fp : List Nat) (T : TypeId) (gi : Nat) (Fx : FuncId) : Prop where
  val : v = .iface T (.pointer (some ⟨gi, 0, none⟩))
  mX : ∀ W, (method 279 T (.pointer (some ⟨gi, 0, none⟩)) "mullion/layout.stretch").run Try.prog W = .ok (Fx, .pointer (some ⟨gi, 0, none⟩)) W
  nX : ∀ W, (nilAhead 279 T (.pointer (some ⟨gi, 0, none⟩)) "mullion/layout.stretch").run Try.prog W = .ok (some false) W
  nR : ∀ W, (nilAhead 279 T (.pointer (some ⟨gi, 0, none⟩)) "mullion/layout.room").run Try.prog W = .ok (some false) W
  fX : ∀ a c d W, (callFunc Fx #[a, c, d]).run Try.prog W = .ok (.enter Fx #[a, c, d]) W
  cX : ∀ X j n t', t.At X B v fp → Str t j n t' → Calls Try.prog Fx #[.pointer (some ⟨gi, 0, none⟩), .int .i64 j, .int .i64 n] X fun e w' => e = .returned (.tuple #[]) ∧ t'.At w' B v fp ∧ But fp X w'
def Tree.Stretches (t : Tree) : Prop := ∀ B v fp W, t.At W B v fp → fp.Nodup → ∃ T gi Fx, PartX B v t fp T gi Fx

theorem l_fX (a c d : Value) (W : World) : (callFunc 30 #[a, c, d]).run Try.prog W = .ok (.enter 30 #[a, c, d]) W := by kernel_rfl
theorem s_fX (a c d : Value) (W : World) : (callFunc 141 #[a, c, d]).run Try.prog W = .ok (.enter 141 #[a, c, d]) W := by kernel_rfl
theorem l_stretch (g : Nat) (W : World) : (method 279 60 (.pointer (some ⟨g, 0, none⟩)) "mullion/layout.stretch").run Try.prog W = .ok (30, .pointer (some ⟨g, 0, none⟩)) W := by kernel_rfl
theorem s_stretch (g : Nat) (W : World) : (method 279 74 (.pointer (some ⟨g, 0, none⟩)) "mullion/layout.stretch").run Try.prog W = .ok (141, .pointer (some ⟨g, 0, none⟩)) W := by kernel_rfl
theorem l_nX (g : Nat) (W : World) : (nilAhead 279 60 (.pointer (some ⟨g, 0, none⟩)) "mullion/layout.stretch").run Try.prog W = .ok (some false) W := by kernel_rfl
theorem s_nX (g : Nat) (W : World) : (nilAhead 279 74 (.pointer (some ⟨g, 0, none⟩)) "mullion/layout.stretch").run Try.prog W = .ok (some false) W := by kernel_rfl
theorem l_nR (g : Nat) (W : World) : (nilAhead 279 60 (.pointer (some ⟨g, 0, none⟩)) "mullion/layout.room").run Try.prog W = .ok (some false) W := by kernel_rfl
theorem s_nR (g : Nat) (W : World) : (nilAhead 279 74 (.pointer (some ⟨g, 0, none⟩)) "mullion/layout.room").run Try.prog W = .ok (some false) W := by kernel_rfl

/-- How a split stands while its parts are stretched. -/
structure StandsX (w : World) (g : Nat) (b : Box) (k : Int) (sl : Value) (vs : List Value) (fs : List Nat) (B : Nat) (us : List Tree) (wr : World) : Prop where
  own : SplitAt wr g b k sl
  row : wr.ownsRow B 56 1 sl vs.length vs
  parts : partsAt wr B us vs fs
  but : But (g :: fs) w wr
theorem StandsX.drewN {w : World} {g : Nat} {b : Box} {k : Int} {sl : Value} {vs : List Value} {fs : List Nat} {B : Nat} {us : List Tree} {wr : World} (h : StandsX w g b k sl vs fs B us wr) (m : Nat) : StandsX w g b k sl vs fs B us (wr.drewN m) := by
  have hb : Below wr.heap.size wr (wr.drewN m) := below_drewN (Below.refl _ _) m
  exact ⟨h.own.below hb, own_below h.row hb, h.parts.below hb, h.but.trans ⟨hb.os, hb.tape, hb.output, hb.size, fun q hq _ => hb.block q hq⟩⟩
theorem StandsX.one {w : World} {g : Nat} {b : Box} {k : Int} {sl : Value} {vs : List Value} {fs : List Nat} {B : Nat} {us : List Tree} {wr : World} {i : Nat} {t : Tree} (hnd : (g :: (sl.ownBlock.toList ++ fs)).Nodup) (h : StandsX w g b k sl vs fs B us wr) (ht : us[i]? = some t) :
    ∃ v f, vs[i]? = some v ∧ t.At wr B v f ∧ f.Nodup ∧ ∀ t' w', t'.At w' B v f → But f wr w' → StandsX w g b k sl vs fs B (us.set i t') w' := by
  obtain ⟨n1, n2⟩ := List.nodup_cons.1 hnd
  obtain ⟨n3, n4, n5⟩ := List.nodup_append.1 n2
  obtain ⟨v, f, e1, e2, e3, e4, e5⟩ := partsAt.one h.parts n4 i t ht
  refine ⟨v, f, e1, e2, e3, fun t' w' h1 h2 => ⟨?_, ?_, e5 w' t' h2 h1, ?_⟩⟩
  · exact (h2.block g (lt_of_block h.own) fun e => n1 (List.mem_append_right _ (e4 g e))).trans h.own
  · exact own_kept h.row fun q hq => h2.block q (own_lt h.row q hq) fun e => n5 q hq q (e4 q e) rfl
  · exact h.but.trans (h2.mono fun q hq => List.mem_cons_of_mem _ (e4 q hq))
theorem StandsX.seen {w : World} {g : Nat} {b : Box} {k : Int} {vs : List Value} {fs : List Nat} {B : Nat} {us : List Tree} {wr : World} {pg n cap : Nat} (h : StandsX w g b k (.slice (some ⟨pg, 0, none⟩) n cap) vs fs B us wr) (hn : us.length = n) (h0 : 0 < n) : Seen wr g k (.slice (some ⟨pg, 0, none⟩) n cap) pg vs := by
  have hl := h.parts.length
  obtain ⟨pg', cap', e, h3⟩ := seen_of h.own h.row (by intro e; rw [e] at hl; simp at hl; omega)
  cases e
  exact h3

/-- A round of deal: what is left to be dealt, and how the split stands. -/
structure DealAt (w : World) (g : Nat) (b : Box) (k : Int) (sl : Value) (vs : List Value) (fs : List Nat) (B N : Nat) (rs : List Tree) (m : Nat) (i : Nat) (n : Int) (wr : World) (us : List Tree) : Prop where
  deal : Deal k m us i n rs
  at_ : StandsX w g b k sl vs fs B us wr
  small : ∀ t ∈ us, t.size ≤ N
  len : us.length = rs.length
  lt : i < us.length

theorem deal_cases {k : Int} {m : Nat} {us : List Tree} {i : Nat} {n : Int} {rs : List Tree} (h : Deal k m us i n rs) : (n = 0 ∧ us = rs) ∨
    (∃ m' t, m = m' + 1 ∧ n < 0 ∧ -1000 ≤ n ∧ us[i]? = some t ∧ t.sound = true ∧ t.kinds ∧ t.size ≤ 900 ∧ t.room k = 0 ∧ Deal k m' us ((i + 1) % us.length) n rs) ∨
    (∃ m' t t', m = m' + 1 ∧ n ≠ 0 ∧ (-1000 ≤ n ∧ n ≤ 1000) ∧ us[i]? = some t ∧ t.sound = true ∧ t.kinds ∧ t.size ≤ 900 ∧ (n < 0 → 0 < t.room k) ∧ t'.size = t.size ∧ Str t k (sg n) t' ∧ Deal k m' (us.set i t') ((i + 1) % us.length) (n - sg n) rs) := by
  cases h with
  | done k ts i hi => exact .inl ⟨rfl, rfl⟩
  | skip k m ts i n rs t h1 h2 h3 h4 h5 h6 h7 h8 => exact .inr (.inl ⟨m, t, rfl, h1, h2, h3, h4, h5, h6, h7, h8⟩)
  | give k m ts i n rs t t' h1 h2 h3 h4 h5 h6 h7 h8 h9 h10 => exact .inr (.inr ⟨m, t, t', rfl, h1, h2, h3, h4, h5, h6, h7, h8, h9, h10⟩)

theorem small_set {us : List Tree} {N i : Nat} {t t' : Tree} (h : ∀ t ∈ us, t.size ≤ N) (ht : us[i]? = some t) (he : t'.size = t.size) : ∀ u ∈ us.set i t', u.size ≤ N := by
  intro u hu
  rcases List.mem_or_eq_of_mem_set hu with hu | hu
  · exact h u hu
  · rw [hu, he]
    exact h t (List.mem_of_getElem? ht)

/-- The next line: which part, and how all stands behind it. -/
structure DealOn (w : World) (g : Nat) (b : Box) (k : Int) (sl : Value) (vs : List Value) (fs : List Nat) (B N : Nat) (rs : List Tree) (m : Nat) (i : Nat) (n : Int) (wr : World) (T : TypeId) (gi : Nat) (Fx Fr : FuncId) (r : Int) : Prop where
  val : vs[i]? = some (.iface T (.pointer (some ⟨gi, 0, none⟩)))
  mX : ∀ W, (method 279 T (.pointer (some ⟨gi, 0, none⟩)) "mullion/layout.stretch").run Try.prog W = .ok (Fx, .pointer (some ⟨gi, 0, none⟩)) W
  nX : ∀ W, (nilAhead 279 T (.pointer (some ⟨gi, 0, none⟩)) "mullion/layout.stretch").run Try.prog W = .ok (some false) W
  nR : ∀ W, (nilAhead 279 T (.pointer (some ⟨gi, 0, none⟩)) "mullion/layout.room").run Try.prog W = .ok (some false) W
  fX : ∀ a c d W, (callFunc Fx #[a, c, d]).run Try.prog W = .ok (.enter Fx #[a, c, d]) W
  mR : ∀ W, (method 279 T (.pointer (some ⟨gi, 0, none⟩)) "mullion/layout.room").run Try.prog W = .ok (Fr, .pointer (some ⟨gi, 0, none⟩)) W
  fR : ∀ a c W, (callFunc Fr #[a, c]).run Try.prog W = .ok (.enter Fr #[a, c]) W
  cR : ∀ X, Below wr.heap.size wr X → Calls Try.prog Fr #[.pointer (some ⟨gi, 0, none⟩), .int .i64 k] X fun e w' => e = .returned (.int .i64 r) ∧ X = w'
  low : 0 ≤ r ∧ r ≤ 1000000
  lim : -1000 ≤ n ∧ n ≤ 1000
  skip : n < 0 → r = 0 → ∃ us, DealAt w g b k sl vs fs B N rs m ((i + 1) % rs.length) n wr us
  give : (n < 0 → r ≠ 0) → ∀ X, Below wr.heap.size wr X → Calls Try.prog Fx #[.pointer (some ⟨gi, 0, none⟩), .int .i64 k, .int .i64 (sg n)] X fun e w' => e = .returned (.tuple #[]) ∧ ∃ us, DealAt w g b k sl vs fs B N rs m ((i + 1) % rs.length) (n - sg n) w' us

theorem StandsX.below {w : World} {g : Nat} {b : Box} {k : Int} {sl : Value} {vs : List Value} {fs : List Nat} {B : Nat} {us : List Tree} {wr X : World} (h : StandsX w g b k sl vs fs B us wr) (hb : Below wr.heap.size wr X) : StandsX w g b k sl vs fs B us X :=
  ⟨h.own.below hb, own_below h.row hb, h.parts.below hb, h.but.trans ⟨hb.os, hb.tape, hb.output, hb.size, fun q hq _ => hb.block q hq⟩⟩

theorem deal_next {w : World} {g : Nat} {b : Box} {k : Int} {sl : Value} {vs : List Value} {fs : List Nat} {B N : Nat} {rs : List Tree} {m : Nat} {i : Nat} {n : Int} {wr : World} {us : List Tree} (hnd : (g :: (sl.ownBlock.toList ++ fs)).Nodup) (IH : ∀ t : Tree, t.size ≤ N → t.Stretches) (h : DealAt w g b k sl vs fs B N rs m i n wr us) (hn : n ≠ 0) :
    ∃ m' T gi Fx Fr r, m = m' + 1 ∧ DealOn w g b k sl vs fs B N rs m' i n wr T gi Fx Fr r := by
  have hlt' : (i + 1) % us.length < us.length := Nat.mod_lt _ (by have := h.lt; omega)
  rcases deal_cases h.deal with ⟨h0, _⟩ | ⟨m', t, hm, hneg, hlo, ht, hs, hk, hz, hr, hd⟩ | ⟨m', t, t', hm, _, hlim, ht, hs, hk, hz, hr, hsz, hst, hd⟩
  · exact absurd h0 hn
  · obtain ⟨v, f, e1, e2, e3, e4⟩ := h.at_.one hnd ht
    obtain ⟨T, gi, Fx, hX⟩ := IH t (h.small t (List.mem_of_getElem? ht)) B v f wr e2 e3
    obtain ⟨T', gi', Fr, hR⟩ := e2.partR hs (by omega)
    have hv := hX.val
    subst hv
    have hv := hR.val
    cases hv
    refine ⟨m', T, gi, Fx, Fr, t.room k, hm, { val := e1, mX := hX.mX, nX := hX.nX, nR := hX.nR, fX := hX.fX, mR := hR.mR, fR := hR.fR, cR := fun X hb => hR.cR k X hb, low := by omega, lim := by omega, skip := fun _ _ => ⟨us, ?_⟩, give := fun h1 => absurd hr (h1 hneg) }⟩
    rw [← h.len]
    exact ⟨hd, h.at_, h.small, h.len, hlt'⟩
  · obtain ⟨v, f, e1, e2, e3, e4⟩ := h.at_.one hnd ht
    obtain ⟨T, gi, Fx, hX⟩ := IH t (h.small t (List.mem_of_getElem? ht)) B v f wr e2 e3
    obtain ⟨T', gi', Fr, hR⟩ := e2.partR hs (by omega)
    have hv := hX.val
    subst hv
    have hv := hR.val
    cases hv
    have hrb := room_bound t k hs
    refine ⟨m', T, gi, Fx, Fr, t.room k, hm, { val := e1, mX := hX.mX, nX := hX.nX, nR := hX.nR, fX := hX.fX, mR := hR.mR, fR := hR.fR, cR := fun X hb => hR.cR k X hb, low := by omega, lim := hlim, skip := fun h1 h2 => absurd h2 (by have := hr h1; omega), give := fun _ X hb => ?_ }⟩
    refine (hX.cX X k (sg n) t' (e2.below hb) hst).mono fun e w' h5 => ⟨h5.1, us.set i t', ?_⟩
    rw [← h.len]
    refine ⟨?_, e4 t' w' h5.2.1 ?_, small_set h.small ht hsz, by rw [List.length_set]; exact h.len, by rw [List.length_set]; exact hlt'⟩
    · exact hd
    · exact (But.trans ⟨hb.os, hb.tape, hb.output, hb.size, fun q hq _ => hb.block q hq⟩ h5.2.2)

theorem DealAt.seen {w : World} {g : Nat} {b : Box} {k : Int} {pg L cap : Nat} {vs : List Value} {fs : List Nat} {B N : Nat} {rs : List Tree} {m : Nat} {i : Nat} {n : Int} {wr : World} {us : List Tree} (h : DealAt w g b k (.slice (some ⟨pg, 0, none⟩) L cap) vs fs B N rs m i n wr us) (hL : rs.length = L) : Seen wr g k (.slice (some ⟨pg, 0, none⟩) L cap) pg vs := h.at_.seen (by rw [h.len, hL]) (by have := h.lt; have := h.len; omega)
def DealQ (w : World) (g : Nat) (b : Box) (k : Int) (sl : Value) (vs : List Value) (fs : List Nat) (B N : Nat) (rs : List Tree) (s : Int) (vn vi : Value) (wr : World) (m : Nat) : Prop := ∃ (i : Nat) (n : Int) (us : List Tree), vi = .int .i64 i ∧ vn = .int .i64 n ∧ (n = 0 ∨ sg n = s) ∧ DealAt w g b k sl vs fs B N rs m i n wr us

theorem sg_next (n s : Int) (hn : n ≠ 0) (h : n = 0 ∨ sg n = s) : sg n = s ∧ (n - sg n = 0 ∨ sg (n - sg n) = s) := by
  have h1 : sg n = s := h.resolve_left hn
  refine ⟨h1, ?_⟩
  rw [← h1]
  unfold sg
  split
  · by_cases h2 : n - -1 = 0
    · exact .inl h2
    · right
      rw [if_pos (by omega)]
  · by_cases h2 : n - 1 = 0
    · exact .inl h2
    · right
      rw [if_neg (by omega)]

end Go.Proofs.Ytnepemlagnnngaa
