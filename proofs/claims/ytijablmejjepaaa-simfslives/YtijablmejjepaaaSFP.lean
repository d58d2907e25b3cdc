/- law11: a call, whatever it is. -/
import Derived.Test.YtijablmejjepaaaSFW
namespace Go.Proofs.Ytijablmejjepaaa
open Go.RowKit Go.Maps Go.Sort

/-- A call, as an argument. -/
structure SfO where
  k : Int
  nm : List UInt8
  to : List UInt8
  bv : Value
  b : List UInt8
  n : Int
  kv : Value
  ks : List Int
  e : Int
def o7 (o : SfO) : List Value := [.int .i64 o.k, .string ⟨o.nm.toArray⟩, .string ⟨o.to.toArray⟩, o.bv, .int .i64 o.n, o.kv, .int .i64 o.e]
structure SfOk (w : World) (o : SfO) : Prop where
  rb : Reads w o.bv o.b
  rk : KReads w o.kv o.ks
  n2 : o.n < 9223372036854775808
  l1 : o.nm.length ≤ maxLen
  l2 : o.to.length ≤ maxLen
theorem KReads.below {w w' : World} {v : Value} {l : List Int} (h : KReads w v l) (hb : Below w.heap.size w w') : KReads w' v l := h.keepB (fun k _ hl => hb.block k hl) hb.size
theorem SfOk.below {w w' : World} {o : SfO} (h : SfOk w o) (hb : Below w.heap.size w w') : SfOk w' o := ⟨h.rb.below hb, h.rk.below hb, h.n2, h.l1, h.l2⟩
theorem KReads.form {w : World} {v : Value} {l : List Int} (h : KReads w v l) : ∃ a cap, v = .slice a l.length cap ∧ l.length ≤ maxLen := by
  obtain ⟨a, cap, h1, h2, _⟩ := h
  exact ⟨a, cap, h1, h2⟩
def sfLong (o : SfO) : Bool := decide (500 < o.b.length) || decide (200 < o.nm.length) || decide (200 < o.to.length) || decide (300 < o.ks.length)
def sfCall (s : SfS) (o : SfO) : Int × SfS :=
  if o.k = 0 then sfCreate s o.nm else if o.k = 1 then sfAppend s o.nm o.b else if o.k = 2 then sfSync s o.nm else if o.k = 3 then sfRename s o.nm o.to else if o.k = 4 then sfRemove s o.nm else if o.k = 5 then sfSyncDir s
  else if o.k = 6 then (0, sfCrash s o.n o.ks) else if o.k = 7 then sfFail s o.n o.e else (0, s)
set_option maxRecDepth 100000 in
theorem long_any {w : World} {o : SfO} (h : SfOk w o) : Calls Try.prog 6 #[.agg (o7 o).toArray] w fun e w' => e = .returned (.bool (sfLong o)) ∧ Below w.heap.size w w' := by
  obtain ⟨k, nm, to, bv, b, n, kv, ks, e⟩ := o
  obtain ⟨ba, bc, hbv, hbl⟩ := h.rb.form
  obtain ⟨ka, kc, hkv, hkl⟩ := h.rk.form
  simp only at hbv hkv
  subst hbv hkv
  have hn := h.l1
  have ht := h.l2
  simp only [maxLen] at hn ht hbl hkl
  have hsn : (ByteArray.mk nm.toArray).size = nm.length := by simp [ByteArray.size]
  have hst : (ByteArray.mk to.toArray).size = to.length := by simp [ByteArray.size]
  clear h
  unfold sfLong o7
  simp only
  have HB : Hid (∀ o, Below w.heap.size w (w.alloc o)) := fun o => (Below.refl _ _).alloc (Nat.le_refl _) o
  by_cases h1 : 500 < b.length
  · have h1' : (500 : Int) < (b.length : Int) := by omega
    rw [decide_eq_true h1]
    go_enter Try.func6, Try.ntmps6
    go_wp2
    go_ret
    exact ⟨rfl, HB.out _⟩
  · have h1' : ¬ (500 : Int) < (b.length : Int) := by omega
    rw [decide_eq_false h1]
    by_cases h2 : 200 < nm.length
    · have h2' : (200 : Int) < (nm.length : Int) := by omega
      rw [decide_eq_true h2]
      go_enter Try.func6, Try.ntmps6
      go_wp2
      go_ret
      exact ⟨rfl, HB.out _⟩
    · have h2' : ¬ (200 : Int) < (nm.length : Int) := by omega
      rw [decide_eq_false h2]
      by_cases h3 : 200 < to.length
      · have h3' : (200 : Int) < (to.length : Int) := by omega
        rw [decide_eq_true h3]
        go_enter Try.func6, Try.ntmps6
        go_wp2
        go_ret
        exact ⟨rfl, HB.out _⟩
      · have h3' : ¬ (200 : Int) < (to.length : Int) := by omega
        rw [decide_eq_false h3]
        by_cases h4 : 300 < ks.length
        · have h4' : (300 : Int) < (ks.length : Int) := by omega
          rw [decide_eq_true h4]
          go_enter Try.func6, Try.ntmps6
          go_wp2
          go_ret
          exact ⟨rfl, HB.out _⟩
        · have h4' : ¬ (300 : Int) < (ks.length : Int) := by omega
          rw [decide_eq_false h4]
          go_enter Try.func6, Try.ntmps6
          go_wp2
          go_ret
          exact ⟨rfl, HB.out _⟩
theorem copy5_any {w : World} {v : Value} {l : List UInt8} (h : Reads w v l) (hl : l.length ≤ 140737488355328) :
    Calls Try.prog 17 #[v] w fun e w' => ∃ v', e = .returned v' ∧ Own w' w.heap.size v' l ∧ Below w.heap.size w w' := by
  go_enter Try.func17, Try.ntmps17
  go_wp2_with (at_builtin; refine wpList_app rfl _ _ rfl w.heap.size _ _ [] l l rfl rfl rfl (Own.nil _ _) h (by simpa using hl) (Nat.le_refl _) ?_; intro v' w1 hown1 hb1)
  go_ret
  exact ⟨_, rfl, hown1, hb1.out⟩
theorem own_keepB {w w' : World} {base : Nat} {v : Value} {l : List UInt8} (h : Own w base v l) (hk : ∀ k, base ≤ k → k < w.heap.size → w'.heap[k]? = w.heap[k]?) : Own w' base v l := row_keepB h hk
end Go.Proofs.Ytijablmejjepaaa
