/-
  Formats: a Builder: its length; nothing written into an empty one.
-/
import Derived.Test.YtgoofifbifdgoaaGreatDoorFXStr
import Derived.Test.YtgoofifbifdgoaaGreatDoorFNxt
namespace Go.Proofs.YtgoofifbifdgoaaGreatDoor
open Go.RowKit
set_option linter.unusedVariables false
set_option maxRecDepth 100000

theorem append_void (W : World) : (Builtin.append_ #[65, 9] 65 #[.slice none 0 0, .string ⟨#[]⟩]).run Tryz.prog W = .ok (.slice none 0 0) W := by kernel_rfl
theorem owns_len {w : World} {B : Nat} {v : Value} {l : List UInt8} (h : Owns w B v l) : ∃ a c, v = .slice a l.length c := by
  rcases h.2 with ⟨rfl, h0⟩ | ⟨g, cap, cur, rfl, _⟩
  · exact ⟨none, 0, by rw [h0]⟩
  · exact ⟨_, _, rfl⟩
set_option maxHeartbeats 1000000 in
theorem len_in {w : World} {B b o : Nat} {T : TypeId} {cs : Array Value} {v : Value} {l : List UInt8} (h : BuilderIn w B b o T cs v l) (hl : l.length ≤ 2147483647) :
    Calls Tryz.prog 29 #[.pointer (some ⟨b, o, none⟩)] w fun e w' => e = .returned (.int .i64 (l.length : Int)) ∧ w = w' := by
  obtain ⟨a, c, rfl⟩ := owns_len h.own
  have c1 : w.cell? ⟨b, o + 1, none⟩ = some (.slice a l.length c) := (cell_at h.blk (o + 1)).trans h.buf
  obtain ⟨n, hn⟩ : ∃ n, l.length = n := ⟨_, rfl⟩
  rw [hn] at c1 hl ⊢
  clear h hn
  go_enter Tryz.func29, Tryz.ntmps29
  go_wp2
  all_goals go_ret
  all_goals exact ⟨rfl, rfl⟩
set_option maxHeartbeats 1000000 in
theorem writeVoid_in {w : World} {B b o : Nat} {T : TypeId} {cs : Array Value} (h : BuilderIn w B b o T cs (.slice none 0 0) []) :
    Calls Tryz.prog 30 #[.pointer (some ⟨b, o, none⟩), .string ⟨#[]⟩] w fun e w' => (∃ r, e = .returned r) ∧ ∃ cs', BuilderIn w' B b o T cs' (.slice none 0 0) [] ∧ But [b] w w' := by
  have HC : Hid (Calls Tryz.prog 79 #[.pointer (some ⟨b, o, none⟩)] w fun e w' => e = .returned (.tuple #[]) ∧ BuilderIn w' B b o T (cs.set! o (.pointer (some ⟨b, o, none⟩))) (.slice none 0 0) [] ∧ But [b] w w') := copyCheck_in h
  obtain ⟨ds, hds⟩ : ∃ ds, cs.set! o (.pointer (some ⟨b, o, none⟩)) = ds := ⟨_, rfl⟩
  rw [hds] at HC
  have hos : o + 1 < cs.size := (Array.getElem?_eq_some_iff.1 h.buf).1
  have hdz : o + 1 < ds.size := by rw [← hds, Array.set!_eq_setIfInBounds, Array.size_setIfInBounds]; exact hos
  clear h hds hos
  go_enter Tryz.func30, Tryz.ntmps30
  go_wp2_with fail
  refine HC.out.mono ?_
  rintro e w1 ⟨rfl, h1, hb1⟩
  have c1 : w1.cell? ⟨b, o + 1, none⟩ = some (.slice none 0 0) := (cell_at h1.blk (o + 1)).trans h1.buf
  have f1 : w1.frozen? ⟨b, o + 1, none⟩ = false := free_at h1.blk _
  have hav := append_void w1
  have H1 := hidK h1
  have HB1 := hidK hb1
  clear h1 hb1 HC
  go_wp2_with fail
  all_goals go_ret2
  refine ⟨⟨_, rfl⟩, _, ⟨set_at H1.out.blk _ _, ?_, ?_, H1.out.own.keep (fun g hg => by cases hg), H1.out.ty, ?_⟩, But.setCell HB1.out (.inl (by simp)) _⟩
  · rw [Array.set!_eq_setIfInBounds, Array.getElem?_setIfInBounds]
    simpa using H1.out.adr
  · rw [Array.set!_eq_setIfInBounds, Array.getElem?_setIfInBounds]
    simp
    omega
  · rw [Array.set!_eq_setIfInBounds, Array.size_setIfInBounds]
    exact H1.out.lies
/-- A text written, with what is known of an empty one. -/
theorem write_in {w : World} {B b : Nat} {T : TypeId} {cs : Array Value} {v : Value} {l : List UInt8} (t : List UInt8) (h : BuilderIn w B b 0 T cs v l) (hB : B ≤ w.heap.size) (hBb : B ≤ b) (h0 : l = [] → v = .slice none 0 0) (hlen : l.length + t.length ≤ 1024) :
    Calls Tryz.prog 30 #[.pointer (some ⟨b, 0, none⟩), .string (str t)] w fun e w' => (∃ r, e = .returned r) ∧ ∃ cs' v', BuilderIn w' B b 0 T cs' v' (l ++ t) ∧ (l ++ t = [] → v' = .slice none 0 0) ∧ ∃ S, But S w w' ∧ ∀ k ∈ S, B ≤ k := by
  by_cases hv : l ++ t = []
  · obtain ⟨rfl, rfl⟩ := List.append_eq_nil_iff.1 hv
    have hv0 := h0 rfl
    subst hv0
    refine (writeVoid_in h).mono ?_
    rintro e w' ⟨hr, cs', h1, h2⟩
    exact ⟨hr, cs', _, h1, fun _ => rfl, _, h2, fun k hk => by rw [List.mem_singleton.1 hk]; exact hBb⟩
  · refine (writeString_in (str t) h hB (by rw [str_size]; omega)).mono ?_
    rintro e w' ⟨hr, v', h1, h2⟩
    refine ⟨hr, _, v', h1, fun e => absurd e hv, _, h2, fun k hk => ?_⟩
    rcases List.mem_cons.1 hk with rfl | hk
    · exact hBb
    · have e : v.ownBlock = some k := by simpa using hk
      exact (World.ownsRow.lt h.own k e).1

end Go.Proofs.YtgoofifbifdgoaaGreatDoor
