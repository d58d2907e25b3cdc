/- SL0 SF4 RH SF5, joined. -/
import Derived.Test.YtahigmjpeicemaaDoorNG1
import Derived.Test.YtahigmjpeicemaaDoorNG7
import Derived.Test.YtahigmjpeicemaaDoorNG8
/- Parts of bytes that a slice reads, as one value each. -/
namespace Go.Proofs.YtahigmjpeicemaaDoor
open Go.RowKit

theorem size8 (w : World) : (sizeOf 5).run Tryd.prog w = .ok 1 w := by
  simp [sizeOf]
  rfl
theorem elem8 : Tryd.prog.elem 28 = 5 := by kernel_rfl
theorem und8 : Tryd.prog.underlying 28 = some (.slice (Tryd.prog.elem 28)) := by rw [elem8]; exact Tryd.underlying28
theorem Reads.sliced {w : World} {a : Option Addr} {cap : Nat} {l : List UInt8} (h : Reads w (.slice a l.length cap) l) {c d : Nat} (hc : c ≤ d) (hd : d ≤ l.length) : Reads w (sliced a c d cap 1) ((l.take d).drop c) := by
  unfold Go.sliced
  rcases Nat.eq_zero_or_pos (d - c) with h0 | h0
  · have e : (l.take d).drop c = [] := List.drop_eq_nil_of_le (by simp; omega)
    rw [e, h0]
    refine .inl ⟨rfl, _, _, rfl, fun hn => ?_⟩
    split at hn
    · subst hn; omega
    · rcases h with ⟨_, a', cap', hv, hz⟩ | ⟨b, off, cap', hv, _⟩
      · simp at hv
        obtain ⟨rfl, _, rfl⟩ := hv
        cases a with
        | none => rw [hz rfl]; omega
        | some x => simp at hn
      · simp at hv
        obtain ⟨rfl, _⟩ := hv
        simp at hn
  · rcases h with ⟨rfl, _⟩ | ⟨b, off, cap', hv, h2, h3, h4, h5, h6⟩
    · simp at hd; omega
    · simp at hv
      obtain ⟨rfl, rfl⟩ := hv
      rw [if_neg (by omega)]
      have hl : ((l.take d).drop c).length = d - c := by simp; omega
      have ea : Option.map (fun x : Addr => x.add (c * 1)) (some (⟨b, off, none⟩ : Addr)) = some ⟨b, off + c, none⟩ := by simp [Addr.add]
      rw [ea]
      refine .inr ⟨b, off + c, cap - c, by rw [hl], by omega, by omega, by omega, h5, fun j hj => ?_⟩
      rw [Nat.add_assoc, h6 (c + j) (by omega)]
      simp
/-- l[c:] -/
theorem sl_from {w : World} {a : Option Addr} {cap : Nat} {l : List UInt8} (h : Reads w (.slice a l.length cap) l) {c : Nat} (hc : c ≤ l.length) :
    ∃ a' cap', (∀ w', (Instr.slice 28 (.slice a l.length cap) (some (.int .i64 (c : Int))) none none).run Tryd.prog w' = .ok (.slice a' (l.length - c) cap') w') ∧ Reads w (.slice a' (l.length - c) cap') (l.drop c) := by
  refine ⟨(if cap = c then a else a.map (·.add (c * 1))), cap - c, fun w' => ?_, ?_⟩
  rotate_left
  · have := h.sliced hc (Nat.le_refl _)
    rw [List.take_length] at this
    exact this
  · rw [run_slice_l _ _ _ _ _ und8 _ _ (by omega) (by omega), elem8, size8]
    rfl
/-- l[:d] -/
theorem sl_upto {w : World} {a : Option Addr} {cap : Nat} {l : List UInt8} (h : Reads w (.slice a l.length cap) l) {d : Nat} (hd : d ≤ l.length) :
    ∃ a' cap', (∀ w', (Instr.slice 28 (.slice a l.length cap) none (some (.int .i64 (d : Int))) none).run Tryd.prog w' = .ok (.slice a' d cap') w') ∧ Reads w (.slice a' d cap') (l.take d) := by
  have hcap : d ≤ cap := by
    rcases Nat.eq_zero_or_pos l.length with h0 | h0
    · omega
    · have := h.cap h0; omega
  refine ⟨(if cap = 0 then a else a.map (·.add (0 * 1))), cap - 0, fun w' => ?_, ?_⟩
  rotate_left
  · exact h.sliced (Nat.zero_le d) hd
  · rw [run_slice_h _ _ _ _ _ und8 _ _ (by omega) (by omega), elem8, size8]
    rfl
/-- l[c:d] -/
theorem sl_part {w : World} {a : Option Addr} {cap : Nat} {l : List UInt8} (h : Reads w (.slice a l.length cap) l) {c d : Nat} (hc : c ≤ d) (hd : d ≤ l.length) :
    ∃ a' cap', (∀ w', (Instr.slice 28 (.slice a l.length cap) (some (.int .i64 (c : Int))) (some (.int .i64 (d : Int))) none).run Tryd.prog w' = .ok (.slice a' (d - c) cap') w') ∧ Reads w (.slice a' (d - c) cap') ((l.take d).drop c) := by
  have hcap : d ≤ cap := by
    rcases Nat.eq_zero_or_pos l.length with h0 | h0
    · omega
    · have := h.cap h0; omega
  refine ⟨(if cap = c then a else a.map (·.add (c * 1))), cap - c, fun w' => ?_, ?_⟩
  rotate_left
  · exact h.sliced hc hd
  · rw [run_slice_lh _ _ _ _ _ und8 _ _ _ _ (by omega) (by omega) (by omega), elem8, size8]
    rfl
end Go.Proofs.YtahigmjpeicemaaDoor

/- A file system: a file is cut; acts are settled; the directory is changed. -/
namespace Go.Proofs.YtahigmjpeicemaaDoor
open Go.RowKit Go.Maps

theorem add_zero' (a : Addr) : a.add 0 = a := by simp [Addr.add]
theorem run_slice_3 (a : Option Addr) (n cap N : Nat) (h : N ≤ cap) (w : World) : (Instr.slice 28 (.slice a n cap) none (some (.int .i64 (N : Int))) (some (.int .i64 (N : Int)))).run Tryd.prog w = .ok (.slice a N N) w := by
  have ha : (Option.map (fun x : Addr => x.add 0) a) = a := by cases a <;> simp [add_zero']
  simp [Instr.slice, run_underlying Tryd.underlying28, Instr.sliceBounds, Instr.sliceBound, asIntOf, h, Result.andThen, ha]
end Go.Proofs.YtahigmjpeicemaaDoor

/- A drawn region with a store at its end: what is loaded ahead of it is taken in the world ahead of it. -/
namespace Go.Proofs.YtahigmjpeicemaaDoor
open Go.RowKit

section
variable {P : Program} {ops : Array Oper} {Q : Exit → Act → World → Prop} {md : Region.Mode} {k : Nat} {St Pr : World → Prop}
/-- What holds all the time, and what holds till operation k has come up. -/
def StK (k : Nat) (St Pr : World → Prop) (L : Array Bool) (w : World) : Prop := St w ∧ (L.getD k false = false → Pr w)
def wpAnyS (P : Program) (md : Region.Mode) (ops : Array Oper) (Q : Exit → Act → World → Prop) (k : Nat) (St Pr : World → Prop) : Nat → Array Bool → Act → World → Prop
  | 0, listed, a, w => Region.ready md ops listed = [] ∧ Q .normal a w
  | fuel + 1, listed, a, w =>
    (Region.ready md ops listed = [] → Q .normal a w) ∧
    ∀ i ∈ Region.ready md ops listed, wpOp P ops Q i (fun a' w' => StK k St Pr (listed.setIfInBounds i true) w' ∧ wpAnyS P md ops Q k St Pr fuel (listed.setIfInBounds i true) a' w') a w
theorem wpAny_of_S : ∀ (fuel : Nat) (listed : Array Bool) (a : Act) (w : World), wpAnyS P md ops Q k St Pr fuel listed a w → wpAny P md ops Q fuel listed a w
  | 0, _, _, _, h => h
  | fuel + 1, _, _, _, h => ⟨h.1, fun i hi => wpOp_mono (fun a' w' h' => wpAny_of_S fuel _ a' w' h'.2) (h.2 i hi)⟩
/-- Whatever came up, what it waits for came up. -/
def Cl (md : Region.Mode) (ops : Array Oper) (L : Array Bool) : Prop := ∀ j o, ops[j]? = some o → L.getD j false = true → ∀ e ∈ o.after, Region.binds md e = true → L.getD e.on false = true
def clB (md : Region.Mode) (ops : Array Oper) (L : Array Bool) : Bool := (List.range ops.size).all fun j => !L.getD j false || match ops[j]? with | some o => o.after.all (fun e => !Region.binds md e || L.getD e.on false) | none => true
theorem clB_spec {L : Array Bool} (h : clB md ops L = true) : Cl md ops L := by
  intro j o ho hl e he hb
  have h1 := List.all_eq_true.1 h j (List.mem_range.2 (Array.getElem?_eq_some_iff.1 ho).1)
  rw [hl, ho] at h1
  simp only [Bool.not_true, Bool.false_or] at h1
  have h2 := Array.all_eq_true_iff_forall_mem.1 h1 e he
  rw [hb] at h2
  simpa using h2
theorem Cl.set {L : Array Bool} {j : Nat} (h : Cl md ops L) (hj : j ∈ Region.ready md ops L) : Cl md ops (L.setIfInBounds j true) := by
  obtain ⟨_, o, ho, hall⟩ := mem_ready.1 hj
  intro i oi hoi hl e he hb
  by_cases hij : j = i
  · subst hij
    rw [ho] at hoi
    obtain rfl : o = oi := by simpa using hoi
    exact getD_set_true (hall e he hb)
  · rw [getD_set_ne false hij] at hl
    exact getD_set_true (h i oi hoi hl e he hb)
/-- Does operation k wait for i? -/
def waits (md : Region.Mode) (ops : Array Oper) (k i : Nat) : Bool := match ops[k]? with | some o => o.after.any (fun e => Region.binds md e && e.on == i) | none => false
theorem wpAnyS_first {i : Nat} {oi : Oper} {v : Value} (hi : ops[i]? = some oi) (hsel : ∀ (j : Nat) (o : Oper) cs b, ops[j]? = some o → o.op ≠ .select cs b)
    (hQ : ∀ c a w, Q (.panic c) (a.put oi.dst v) w → Q (.panic c) a w) (hik : i ≠ k) (dep : Bool) (hdep : waits md ops k i = dep) :
    ∀ (fuel : Nat) (listed : Array Bool) (a : Act) (w : World), Cl md ops listed →
      (∀ j oj, ops[j]? = some oj → j ≠ i → listed.getD j true = false → (∀ e ∈ oj.after, Region.binds md e = true → e.on ≠ i) → oi.apart ops oj = true) →
      i ∈ Region.ready md ops listed → YieldsIf P ops (fun w' => St w' ∧ (dep = true → Pr w')) oi v a → StK k St Pr listed w →
      wpAnyS P md ops Q k St Pr fuel (listed.setIfInBounds i true) (a.put oi.dst v) w → wpAnyS P md ops Q k St Pr (fuel + 1) listed a w := by
  have hdone : ∀ (listed : Array Bool) (w : World), Cl md ops listed → i ∈ Region.ready md ops listed → StK k St Pr listed w → (St w ∧ (dep = true → Pr w)) := fun listed w hcl hr hS => by
    refine ⟨hS.1, fun hd => hS.2 ?_⟩
    subst hdep
    unfold waits at hd
    cases hok : ops[k]? with
    | none => rw [hok] at hd; cases hd
    | some ok =>
      rw [hok] at hd
      obtain ⟨e, he, hq⟩ := Array.any_eq_true'.1 hd
      simp only [Bool.and_eq_true, beq_iff_eq] at hq
      cases hl : listed.getD k false with
      | false => rfl
      | true =>
        have h1 := hcl k ok hok hl e he hq.1
        rw [hq.2] at h1
        have h0 := (mem_ready.1 hr).1
        rcases Nat.lt_or_ge i listed.size with h' | h'
        · simp [h'] at h0 h1; rw [h0] at h1; cases h1
        · simp [Array.getElem?_eq_none h'] at h1
  have hset : ∀ (listed : Array Bool) (w : World), StK k St Pr listed w → StK k St Pr (listed.setIfInBounds i true) w := fun listed w h => ⟨h.1, fun hk => h.2 (by rw [getD_set_ne false hik] at hk; exact hk)⟩
  intro fuel
  induction fuel with
  | zero =>
    intro listed a w hcl _ hr hy hS H
    refine ⟨fun h => (by rw [h] at hr; cases hr), fun j hj => ?_⟩
    by_cases hji : j = i
    · subst hji; exact YieldsIf.wpOp (S := fun w' => St w' ∧ (dep = true → Pr w')) hi hy (hdone _ _ hcl hr hS) ⟨hset _ _ hS, H⟩
    · have := ready_mono hj hji
      rw [H.1] at this
      cases this
  | succ fuel ih =>
    intro listed a w hcl hfree hr hy hS H
    refine ⟨fun h => (by rw [h] at hr; cases hr), fun j hj => ?_⟩
    by_cases hji : j = i
    · subst hji; exact YieldsIf.wpOp (S := fun w' => St w' ∧ (dep = true → Pr w')) hi hy (hdone _ _ hcl hr hS) ⟨hset _ _ hS, H⟩
    · have h1 := H.2 j (ready_mono hj hji)
      obtain ⟨hjun, oj, hoj, hall⟩ := mem_ready.1 hj
      have hnot : ∀ e ∈ oj.after, Region.binds md e = true → e.on ≠ i := fun e he hb heq => by
        have h1 := hall e he hb
        have h0 := (mem_ready.1 hr).1
        rw [heq] at h1
        rcases Nat.lt_or_ge i listed.size with h' | h'
        · simp [h'] at h0 h1; rw [h0] at h1; cases h1
        · simp [Array.getElem?_eq_none h'] at h1
      have h2 := wpOp_putIf hoj (hfree j oj hoj hji hjun hnot) (fun cs b => hsel i oi cs b hi) (fun cs b => hsel j oj cs b hoj) hQ hy h1
      have hfree' : ∀ k ok, ops[k]? = some ok → k ≠ i → (listed.setIfInBounds j true).getD k true = false →
          (∀ e ∈ ok.after, Region.binds md e = true → e.on ≠ i) → oi.apart ops ok = true := fun k ok hk hki hun hno => by
        refine hfree k ok hk hki ?_ hno
        by_cases hjk : j = k
        · subst hjk; exact hjun
        · rw [getD_set_ne true hjk] at hun; exact hun
      refine wpOp_mono (fun a' w' h3 => ?_) h2
      have hS' : StK k St Pr (listed.setIfInBounds j true) w' := ⟨h3.2.1.1, fun hk => h3.2.1.2 (by
        rw [Array.setIfInBounds_comm _ _ (Ne.symm hji), getD_set_ne false hik]; exact hk)⟩
      refine ⟨hS', ih (listed.setIfInBounds j true) a' w' (hcl.set hj) hfree' (ready_mono hr (Ne.symm hji)) h3.1 hS' ?_⟩
      rw [Array.setIfInBounds_comm _ _ hji]
      exact h3.2.2
theorem wpAnyS_take {i : Nat} {oi : Oper} {v : Value} {fuel : Nat} {listed : Array Bool} {a : Act} {w : World} (dep : Bool) (hi : ops[i]? = some oi)
    (hs : Region.noSelect ops = true) (hf : Region.free md ops listed i = true) (hr : (Region.ready md ops listed).contains i = true) (hcl : clB md ops listed = true) (hik : Nat.beq i k = false) (hdep : waits md ops k i = dep)
    (hQ : ∀ c a w, Q (.panic c) (a.put oi.dst v) w → Q (.panic c) a w) (hy : YieldsIf P ops (fun w' => St w' ∧ (dep = true → Pr w')) oi v a) (hS : StK k St Pr listed w)
    (h : StK k St Pr (listed.setIfInBounds i true) w → wpAnyS P md ops Q k St Pr fuel (listed.setIfInBounds i true) (a.put oi.dst v) w) : wpAnyS P md ops Q k St Pr (fuel + 1) listed a w := by
  have hne : i ≠ k := fun e => by subst e; simp at hik
  exact wpAnyS_first hi (Region.noSelect_spec hs) hQ hne dep hdep fuel listed a w (clB_spec hcl) (Region.free_spec hi hf) (by simpa using hr) hy hS (h ⟨hS.1, fun hk => hS.2 (by rw [getD_set_ne false hne] at hk; exact hk)⟩)
theorem wpAnyS_ready {i : Nat} {o : Oper} {fuel : Nat} {listed : Array Bool} {a : Act} {w : World} (hr : Region.ready md ops listed = [i]) (ho : ops[i]? = some o)
    (h : ∀ K : Act → World → Prop, Shut (∀ a w, StK k St Pr (listed.setIfInBounds i true) w → (StK k St Pr (listed.setIfInBounds i true) w → wpAnyS P md ops Q k St Pr fuel (listed.setIfInBounds i true) a w) → K a w) → if Region.wanted o (yielded ops a.tmps) = true then Oper.wp P o a w K Q else K (a.put o.dst undef) w) : wpAnyS P md ops Q k St Pr (fuel + 1) listed a w := by
  refine ⟨fun h0 => (by rw [hr] at h0; cases h0), fun j hj => ?_⟩
  rw [hr] at hj
  obtain rfl : j = i := by simpa using hj
  exact wpOp_step ho (fun K' hK => h K' (fun a w h1 h2 => hK a w ⟨h1, h2 h1⟩))
theorem wpAnyS_done {listed : Array Bool} {a : Act} {w : World} (hr : Region.ready md ops listed = []) (h : Q .normal a w) : ∀ fuel, wpAnyS P md ops Q k St Pr fuel listed a w
  | 0 => ⟨hr, h⟩
  | _ + 1 => ⟨fun _ => h, by rw [hr]; simp⟩
theorem wp_region_S {id : Nat} {a : Act} {w : World} (k : Nat) (St Pr : World → Prop) (hm : P.follows .mixedOrders = true) (hS : St w.drew) (hP : Pr w.drew)
    (h : StK k St Pr (Array.replicate ops.size false) w.drew → wpAnyS P .any ops Q k St Pr ops.size (Array.replicate ops.size false) a w.drew) : (Code.region id ops true).wp P Q a w :=
  wp_region_any hm (wpAny_of_S _ _ _ _ (h ⟨hS, fun _ => hP⟩))
end
end Go.Proofs.YtahigmjpeicemaaDoor

/- A file system: acts are settled; the directory is changed. -/
namespace Go.Proofs.YtahigmjpeicemaaDoor
open Go.RowKit Go.Maps

theorem elemA : Tryd.prog.elem 90 = 111 := by kernel_rfl
theorem run_slice_u (a : Option Addr) (n cap N : Nat) (h : N ≤ cap) (w : World) : (Instr.slice 90 (.slice a n cap) none (some (.int .i64 (N : Int))) none).run Tryd.prog w = .ok (.slice a N cap) w := by
  have ha : (Option.map (fun x : Addr => x.add 0) a) = a := by cases a <;> simp [add_zero']
  simp [Instr.slice, run_underlying Tryd.underlying90, Instr.sliceBounds, Instr.sliceBound, asIntOf, h, Result.andThen, ha]
theorem flat3 {α : Type} (f : α → List Value) (hf : ∀ a, (f a).length = 3) : ∀ (l : List α) (j : Nat) (hj : j < l.length) (i : Nat), i < 3 → (l.flatMap f)[j * 3 + i]? = (f l[j])[i]?
  | a :: l, 0, _, i, hi => by
    rw [List.flatMap_cons, List.getElem?_append_left (by rw [hf]; omega)]
    simp
  | a :: l, j + 1, hj, i, hi => by
    rw [List.flatMap_cons, List.getElem?_append_right (by rw [hf]; omega), hf]
    have := flat3 f hf l j (by simpa using hj) i hi
    rw [show (j + 1) * 3 + i - 3 = j * 3 + i by omega, this]
    simp
theorem GOwn.at3 {α : Type} {w : World} {e : TypeId} {q n cap : Nat} {l : List α} {f : α → List Value} (h : GOwn w e 3 (.slice (some ⟨q, 0, none⟩) n cap) l.length (l.flatMap f)) (hf : ∀ a, (f a).length = 3) (j : Nat) (hj : j < l.length) (i : Nat) (u : Value) (hi : (f l[j])[i]? = some u) : w.cell? ⟨q, j * 3 + i, none⟩ = some u := by
  have hi3 : i < 3 := by have := (List.getElem?_eq_some_iff.1 hi).1; rw [hf] at this; exact this
  have := h.cells (g := q) rfl (j * 3 + i) u (by rw [flat3 f hf l j hj i hi3]; exact hi)
  have ea : (⟨q, 0, none⟩ : Addr).add (j * 3 + i) = ⟨q, j * 3 + i, none⟩ := by simp [Addr.add]; omega
  rw [ea] at this
  exact this
theorem foldl_take_succ {l : List SfA} {j : Nat} (hj : j < l.length) (o : List (List UInt8 × Nat)) : (l.take (j + 1)).foldl sfDo o = sfDo ((l.take j).foldl sfDo o) l[j] := by
  rw [List.take_add_one, List.getElem?_eq_getElem hj, List.foldl_append]; rfl
theorem sfPv_ptr (bl : Nat → Nat) (o : Option Nat) : ∃ pt, sfPv bl o = .pointer pt := by cases o <;> exact ⟨_, rfl⟩
theorem cell_of {w : World} {b : Nat} {cs : Array Value} {T : TypeId} (h : w.heap[b]? = some (.cells cs T)) (i : Nat) (v : Value) (hv : cs[i]? = some v) : w.cell? ⟨b, i, none⟩ = some v := by
  obtain ⟨hi, rfl⟩ := Array.getElem?_eq_some_iff.1 hv
  simp [World.cell?, h, hi]
theorem settle_any {w : World} {O : Nat → Prop} {g m1 m2 : Nat} {pv : Value} {bl : Nat → Nat} {vs : Nat → Value} {s : SfS} (h : FsAt w O g m1 m2 pv bl vs s) (hw : SfWf s) (k : Nat) (hk : k ≤ s.pend.length) :
    Calls Tryd.prog 66 #[.pointer (some ⟨g, 0, none⟩), .int .i64 (k : Int)] w fun e w' => e = .returned (.tuple #[]) ∧ FsAt w' O g m1 m2 (.slice none 0 0) bl vs (sfSettle s k) ∧ Onl O w w' := by
  obtain ⟨a, cap, rfl, hc1, hc2, hc3, hc4⟩ := h.hp.form
  have c3 := h.c3
  have hsl := run_slice_u a s.pend.length cap k (by omega)
  have hkb : (k : Int) ≤ 9223372036854775807 := by simp only [maxLen] at hc2; omega
  have HF : Hid (FsAt w O g m1 m2 (.slice a s.pend.length cap) bl vs s) := h
  have HW : Hid (SfWf s) := hw
  clear h hw
  go_enter Tryd.func66, Tryd.ntmps66
  go_wp2_with fail
  clear c3 hsl
  go_loopw [13] (fun i wr => ∃ j : Nat, i = .int .i64 (j : Int) ∧ j ≤ k ∧ Hid (FsAt wr O g m1 m2 (.slice a s.pend.length cap) bl vs { s with old := (s.pend.take j).foldl sfDo s.old }) ∧ Hid (Onl O w wr)) (fun i _ => k - (intOf i).toNat)
  case atStart => exact ⟨0, rfl, by omega, HF, Onl.refl _ _⟩
  case round =>
    obtain ⟨j, rfl, hj, HR, HO⟩ := hrel
    by_cases hlt : j < k
    · have hlt' : (j : Int) < (k : Int) := by omega
      cases a with
      | none => have := (hc4 rfl).1; omega
      | some q =>
        obtain ⟨q, rfl⟩ : ∃ b : Nat, q = ⟨b, 0, none⟩ := ⟨_, hc3 q rfl⟩
        have hjl : j < s.pend.length := by omega
        obtain ⟨A, HA⟩ := hid_ex (s.pend[j])
        have hp := HR.out.hp
        have x0 := hp.at3 (fun _ => rfl) j hjl 0 (.string ⟨A.gone.toArray⟩) (by rw [HA.out]; rfl)
        have x1 := hp.at3 (fun _ => rfl) j hjl 1 (.string ⟨A.name.toArray⟩) (by rw [HA.out]; rfl)
        have x2 := hp.at3 (fun _ => rfl) j hjl 2 (sfPv bl A.file) (by rw [HA.out]; rfl)
        rw [Nat.add_zero] at x0
        obtain ⟨pt, hpt⟩ := sfPv_ptr bl A.file
        have HPT : Hid (sfPv bl A.file = .pointer pt) := hpt
        rw [hpt] at x2
        clear hp hpt
        go_wp2_with fail
        clear x0 x1 x2
        have HX : Hid ((wr.alloc (.cells #[.string ⟨A.gone.toArray⟩, .string ⟨A.name.toArray⟩, .pointer pt] 111)).heap[wr.heap.size]? = some (.cells #[.string ⟨A.gone.toArray⟩, .string ⟨A.name.toArray⟩, .pointer pt] 111)) := heap_alloc_new _ _
        have HR1 : Hid (FsAt (wr.alloc (.cells #[.string ⟨A.gone.toArray⟩, .string ⟨A.name.toArray⟩, .pointer pt] 111)) O g m1 m2 (.slice (some ⟨q, 0, none⟩) s.pend.length cap) bl vs { s with old := (s.pend.take j).foldl sfDo s.old }) := HR.out.keep (fun k hk => Below.heap_alloc _ _ _ (HR.out.lt k hk)) (by simp)
        have HO1 : Hid (Onl O w (wr.alloc (.cells #[.string ⟨A.gone.toArray⟩, .string ⟨A.name.toArray⟩, .pointer pt] 111))) := HO.out.then (Onl.alloc _)
        clear HR HO
        generalize (wr.alloc (.cells #[.string ⟨A.gone.toArray⟩, .string ⟨A.name.toArray⟩, .pointer pt] 111)) = w1 at *
        have cm := HR1.out.c2
        have y0 := cell_of HX.out 0 _ rfl
        have y1 := cell_of HX.out 1 _ rfl
        have y2 := cell_of HX.out 2 _ rfl
        have HDO : Hid (Calls Tryd.prog 80 #[.agg #[.string ⟨A.gone.toArray⟩, .string ⟨A.name.toArray⟩, .pointer pt], .map (some m2)] w1.drew fun e w' => e = .returned (.tuple #[]) ∧ FsAt w' O g m1 m2 (.slice (some ⟨q, 0, none⟩) s.pend.length cap) bl vs { s with old := (s.pend.take (j + 1)).foldl sfDo s.old } ∧ Onl O w1 w') := by
          have hA := HW.out.pi A (by rw [HA.out]; exact List.getElem_mem hjl)
          have hm2 : SfMap w1.drew m2 bl ((s.pend.take j).foldl sfDo s.old) := HR1.out.h2
          have := do_any hm2 (by have := HW.out.ln j; simp only [maxLen]; omega) A (by simp only [maxLen]; omega) (by simp only [maxLen]; omega)
          rw [HPT.out] at this
          refine this.mono ?_
          rintro e w' ⟨he, h1, h2⟩
          refine ⟨he, ?_, ⟨h2.os, h2.tape, h2.output, h2.size, fun k hk ho => h2.block k hk (fun e => ho (e ▸ HR1.out.o2))⟩⟩
          rw [foldl_take_succ hjl, ← HA.out]
          exact HR1.out.set2 (w' := w') h2.size (fun k hk hne => h2.block k (HR1.out.lt k hk) hne) h1
        refine wp_region_noPanic ?_
        refine wp_region_S 5 (fun _ => True) (fun w' => w'.cell? ⟨wr.heap.size, 0, none⟩ = some (.string ⟨A.gone.toArray⟩) ∧ w'.cell? ⟨wr.heap.size, 1, none⟩ = some (.string ⟨A.name.toArray⟩) ∧ w'.cell? ⟨wr.heap.size, 2, none⟩ = some (.pointer pt) ∧ w'.cell? ⟨g, 2, none⟩ = some (.map (some m2))) (by kernel_rfl) ?_ ?_ (fun hHeld => ?_)
        · trivial
        · exact ⟨y0, y1, y2, cm⟩
        refine wpAnyS_take (i := 0) (v := .agg #[.string ⟨A.gone.toArray⟩, .string ⟨A.name.toArray⟩, .pointer pt]) true rfl (by kernel_rfl) (by kernel_rfl) (by kernel_rfl) (by kernel_rfl) (by kernel_rfl) (by kernel_rfl) (fun _ _ _ h => h) (Or.inl ⟨by rfl, ?_⟩) hHeld (fun hHeld => ?_)
        · (intro w1 hSw; have hSw2 := hSw.2 rfl; have hSw := hSw.1; (try dsimp only at hSw hSw2); go_simp)
        simp only [List.getElem_toArray, List.getElem_cons_zero, Act.put, List.setIfInBounds_toArray, List.set_cons_zero, List.set_cons_succ]
        refine wpAnyS_take (i := 1) (v := .pointer (some ⟨g, 0, none⟩)) _ rfl (by kernel_rfl) (by kernel_rfl) (by kernel_rfl) (by kernel_rfl) (by kernel_rfl) rfl (fun _ _ _ h => h) (Or.inl ⟨by rfl, ?_⟩) hHeld (fun hHeld => ?_)
        · (intro w1 hSw; have hSw := hSw.1; (try dsimp only at hSw); go_simp)
        simp only [List.getElem_toArray, List.getElem_cons_succ, List.getElem_cons_zero, Act.put, List.setIfInBounds_toArray, List.set_cons_zero, List.set_cons_succ]
        refine wpAnyS_take (i := 2) (v := .pointer (some ⟨g, 0, none⟩)) _ rfl (by kernel_rfl) (by kernel_rfl) (by kernel_rfl) (by kernel_rfl) (by kernel_rfl) rfl (fun _ _ _ h => h) (Or.inl ⟨by rfl, ?_⟩) hHeld (fun hHeld => ?_)
        · (intro w1 hSw; have hSw := hSw.1; (try dsimp only at hSw); go_simp)
        simp only [List.getElem_toArray, List.getElem_cons_succ, List.getElem_cons_zero, Act.put, List.setIfInBounds_toArray, List.set_cons_zero, List.set_cons_succ]
        refine wpAnyS_take (i := 3) (v := .pointer (some ⟨g, 2, none⟩)) _ rfl (by kernel_rfl) (by kernel_rfl) (by kernel_rfl) (by kernel_rfl) (by kernel_rfl) rfl (fun _ _ _ h => h) (Or.inl ⟨by rfl, ?_⟩) hHeld (fun hHeld => ?_)
        · (intro w1 hSw; have hSw := hSw.1; (try dsimp only at hSw); go_simp)
        simp only [List.getElem_toArray, List.getElem_cons_succ, List.getElem_cons_zero, Act.put, List.setIfInBounds_toArray, List.set_cons_zero, List.set_cons_succ]
        refine wpAnyS_take (i := 4) (v := .map (some m2)) true rfl (by kernel_rfl) (by kernel_rfl) (by kernel_rfl) (by kernel_rfl) (by kernel_rfl) (by kernel_rfl) (fun _ _ _ h => h) (Or.inl ⟨by rfl, ?_⟩) hHeld (fun hHeld => ?_)
        · (intro w1 hSw; have hSw2 := hSw.2 rfl; have hSw := hSw.1; (try dsimp only at hSw hSw2); go_simp)
        simp only [List.getElem_toArray, List.getElem_cons_succ, List.getElem_cons_zero, Act.put, List.setIfInBounds_toArray, List.set_cons_zero, List.set_cons_succ]
        refine wpAnyS_ready (i := 5) (by kernel_rfl) rfl (fun K hK => ?_)
        go_simp
        refine HDO.out.mono ?_
        rintro e w2 ⟨rfl, hf2, ho2⟩
        have HR2 := (show Hid (FsAt w2 O g m1 m2 (.slice (some ⟨q, 0, none⟩) s.pend.length cap) bl vs { s with old := (s.pend.take (j + 1)).foldl sfDo s.old }) from hf2)
        have HO2 : Hid (Onl O w w2) := HO1.out.then ho2
        clear hf2 ho2 HDO HO1 HR1 HX y0 y1 y2 cm
        go_simp
        refine hK.out _ _ ⟨?_, fun hno => absurd hno (by decide)⟩ (fun hHeld => ?_)
        · trivial
        clear hK K
        refine wpAnyS_done (by kernel_rfl) ?_ _
        refine NoPanic.normal ?_
        go_wp2_with fail
        go_roundw
        case rel => exact ⟨j + 1, by go_num, by omega, HR2, HO2⟩
        case measure => simp [intOf]; omega
    · have hlt' : ¬ (j : Int) < (k : Int) := by omega
      obtain rfl : j = k := by omega
      have fz := HR.out.fz 3
      have c3 := HR.out.c3
      go_wp2_with fail
      refine bodyPost_end (results_none rfl _ _ _) rfl ?_
      refine ⟨rfl, ?_, HO.out.then (Onl.set (a := ⟨g, 3, none⟩) HR.out.og _)⟩
      refine FsAt.setG (s := { s with old := (s.pend.take j).foldl sfDo s.old }) HR.out (fun _ q => q) (fun k q => by have := HR.out.lt k q; simp [World.setCell]; exact this) (fun k _ hk _ => Below.heap_setCell _ _ _ _ hk) ?_ (GOwn.nil _ _ _) (fun k hk => by simp [Value.ownBlock] at hk)
      have := cells_set HR.out.hg 3 (.slice none 0 0); simpa using this
end Go.Proofs.YtahigmjpeicemaaDoor
