/- F4 WX0 WS4 WX1 WX2, joined. -/
import Derived.Test.YtegcomopcoapjaaGreatDoorTG3
import Derived.Test.YtegcomopcoapjaaGreatDoorTG17
import Derived.Test.YtegcomopcoapjaaGreatDoorTG19
import Derived.Test.YtegcomopcoapjaaGreatDoorTG20
/- Of frames one behind the other; crc.All. -/
namespace Go.Proofs.YtegcomopcoapjaaGreatDoor
open Go.RowKit

theorem vle_four' (n : Nat) (h : n < 4294967296) : vle (four n) = n := by
  simp only [four, vle, UInt8.toNat_ofNat']
  omega
theorem nx_frm (l m : List UInt8) (hl : l.length ≤ 65535) : nxF (frm l ++ m) = (l, l.length + 8, 0) := by
  have e1 : frm l ++ m = four l.length ++ (l ++ (four (mor 0 (four l.length ++ l)) ++ m)) := by unfold frm; simp [List.append_assoc]
  have e4 : (frm l ++ m).take 4 = four l.length := by rw [e1]; rfl
  have e5 : (frm l ++ m).drop 4 = l ++ (four (mor 0 (four l.length ++ l)) ++ m) := by rw [e1]; rfl
  have e6 : (frm l ++ m).take (4 + l.length) = four l.length ++ l := by
    have : (frm l ++ m) = (four l.length ++ l) ++ (four (mor 0 (four l.length ++ l)) ++ m) := by rw [e1]; simp [List.append_assoc]
    rw [this, List.take_append_of_le_length (by simp [four_len]), List.take_of_length_le (by simp [four_len])]
  have e7 : ((frm l ++ m).drop (4 + l.length)).take 4 = four (mor 0 (four l.length ++ l)) := by
    rw [← List.drop_drop, e5, List.drop_left]; rfl
  have hlen : (frm l ++ m).length = l.length + 8 + m.length := by rw [List.length_append, frm_len]
  unfold nxF
  rw [e4, vle_four' _ (by omega), if_neg (by omega), if_neg (by omega), if_neg (by omega), e7, vle_four' _ (mor_lt _ _), e6, if_neg (by simp), e5, List.take_left]
theorem alF_frm (k : Nat) (l m : List UInt8) (hl : l.length ≤ 65535) : alF (k + 1) (frm l ++ m) = (l, l.length + 8) :: alF k m := by
  rw [alF, nx_frm l m hl, if_pos rfl]
  show _ :: alF k ((frm l ++ m).drop (l.length + 8)) = _
  rw [← frm_len, List.drop_left]
theorem all_any (v : Value) (bs : List UInt8) (hbl : bs.length ≤ 1000000) (w : World) (hR : Reads w v bs) :
    Calls Tryz.prog 31 #[v] w fun e W' => ∃ (vl : Value) (xs : List Fr), e = .returned (.tuple #[vl, .int .i64 (ksum (alF (bs.length + 1) bs) : Nat)]) ∧ xs.map Fr.p = alF (bs.length + 1) bs ∧ W'.ownsRow w.heap.size 61 1 vl xs.length (xs.map Fr.v) ∧ (∀ x ∈ xs, Own W' w.heap.size x.v x.D) ∧ Below w.heap.size w W' :=
  callsIn_wide.1 (all_in 5 (by decide) v bs hbl w hR)
/-- What a list of slices holds. -/
theorem row_at {w : World} {base : Nat} {vl : Value} {xs : List Value} (h : w.ownsRow base 61 1 vl xs.length xs) (h0 : 0 < xs.length) :
    ∃ g cap, vl = .slice (some ⟨g, 0, none⟩) xs.length cap ∧ xs.length ≤ cap ∧ g < w.heap.size ∧ ∀ j (hj : j < xs.length), w.cell? ⟨g, j, none⟩ = some xs[j] := by
  have hlt := World.ownsRow.lt h
  rcases h.2 with ⟨_, h1⟩ | ⟨g, cap, cur, hv, hg, hw, hc, hm, _⟩
  · omega
  · subst hv
    refine ⟨g, cap, rfl, hc, (hlt g rfl).2, fun j hj => ?_⟩
    rw [World.ownsRow.cellAt h j (by simpa using hj)]
    simp [hj]
end Go.Proofs.YtegcomopcoapjaaGreatDoor

/- What a segment's bytes tell: pure. -/
namespace Go.Proofs.YtegcomopcoapjaaGreatDoor
open Go.RowKit Go.Shelf

/-- The records of frames, up to the first that is none. -/
def rcF : List (List UInt8) → List (List Fc × Int)
  | [] => []
  | d :: ds => match rdR d with
    | none => []
    | some q => q :: rcF ds
/-- The frames of bytes. -/
def fmS (b : List UInt8) : List (List UInt8) := (alF (b.length + 1) b).map (·.1)
theorem nxF_len {l : List UInt8} (h : (nxF l).2.2 = 0) : (nxF l).1.length ≤ l.length := by
  unfold nxF at h ⊢
  by_cases h1 : l.length < 4
  · rw [if_pos h1] at h; simp at h
  · rw [if_neg h1] at h ⊢
    by_cases h2 : 65535 < vle (l.take 4)
    · rw [if_pos h2] at h; simp at h
    · rw [if_neg h2] at h ⊢
      by_cases h3 : l.length < vle (l.take 4) + 8
      · rw [if_pos h3] at h; simp at h
      · rw [if_neg h3] at h ⊢
        by_cases h4 : vle ((l.drop (4 + vle (l.take 4))).take 4) ≠ mor 0 (l.take (4 + vle (l.take 4)))
        · rw [if_pos h4] at h; simp at h
        · rw [if_neg h4]; simp; omega
theorem alF_len : ∀ (k : Nat) (l : List UInt8), ∀ x ∈ alF k l, x.1.length ≤ l.length
  | 0, _, x, h => by simp [alF] at h
  | k + 1, l, x, h => by
    rw [alF] at h
    by_cases e : (nxF l).2.2 = 0
    · rw [if_pos e] at h
      rcases List.mem_cons.1 h with rfl | h
      · exact nxF_len e
      · have := alF_len k _ x h
        simp at this
        omega
    · rw [if_neg e] at h; simp at h
theorem alF_bd : ∀ (k : Nat) (ds : List (List UInt8)) (j : List UInt8) (n : Nat), n ≤ 65535 → (∀ d ∈ ds, d.length ≤ n) → j.length ≤ n → ∀ x ∈ alF k (ds.flatMap frm ++ j), x.1.length ≤ n
  | 0, _, _, _, _, _, _, x, h => by simp [alF] at h
  | k + 1, [], j, n, _, _, hj, x, h => by
    have := alF_len (k + 1) j x (by simpa using h)
    omega
  | k + 1, d :: ds, j, n, hn, hd, hj, x, h => by
    have hd0 := hd d (List.mem_cons_self ..)
    rw [List.flatMap_cons, List.append_assoc, alF_frm k d _ (by omega)] at h
    rcases List.mem_cons.1 h with rfl | h
    · exact hd0
    · exact alF_bd k ds j n hn (fun e he => hd e (List.mem_cons_of_mem _ he)) hj x h
end Go.Proofs.YtegcomopcoapjaaGreatDoor

/- law12's alive. -/
namespace Go.Proofs.YtegcomopcoapjaaGreatDoor
open Go.RowKit Go.Shelf

theorem wr5 : (if isTm 5 = true then 2 :: nb 5 else []) = ([2, 128, 0, 0, 0, 0, 0, 0, 5] : List UInt8) := by decide
end Go.Proofs.YtegcomopcoapjaaGreatDoor

/- wal: a log that was started. -/
namespace Go.Proofs.YtegcomopcoapjaaGreatDoor
open Go.RowKit Go.Shelf

set_option maxRecDepth 100000 in
theorem made_yes (g q : Nat) (nm : List UInt8) (w : World) (h : LgAt w g (.pointer (some ⟨q, 0, none⟩)) nm) : Calls Tryz.prog 22 #[.pointer (some ⟨g, 0, none⟩)] w fun e w' => e = .returned (.bool true) ∧ w' = w := by
  unfold LgAt at h
  have c0 := cell_rw' h 0 (by simp)
  simp only [List.getElem_toArray, List.getElem_cons_zero] at c0
  clear h
  go_enter Tryz.func22, Tryz.ntmps22
  go_wp2_with fail
  go_ret
  exact ⟨rfl, rfl⟩
end Go.Proofs.YtegcomopcoapjaaGreatDoor

/- wal: rows of records that grow. -/
namespace Go.Proofs.YtegcomopcoapjaaGreatDoor
open Go.RowKit Go.Shelf

def Rc.q (r : Rc) : List Fc × Int := (r.p, r.m)
theorem flat2r : ∀ (l : List Rc) (j : Nat) (hj : j < l.length) (i : Nat), i < 2 → (l.flatMap c2r)[j * 2 + i]? = (c2r l[j])[i]?
  | a :: l, 0, _, i, hi => by
    rw [List.flatMap_cons, List.getElem?_append_left (by simp [c2r]; omega)]
    simp
  | a :: l, j + 1, hj, i, hi => by
    rw [List.flatMap_cons, List.getElem?_append_right (by simp [c2r]; omega)]
    have := flat2r l j (by simpa using hj) i hi
    rw [show (j + 1) * 2 + i - (c2r a).length = j * 2 + i by simp [c2r]; omega, this]
    simp
/-- A row of records is read where its cells are and each one is right. -/
theorem rsr_of {w : World} {T : TypeId} {v : Value} {L : List Rc} (h : GOwn w T 2 v L.length (L.flatMap c2r)) (hk : ∀ x ∈ L, RcOk w x) : RsR w v L := by
  have hc := @GOwn.cells _ _ _ _ _ _ h
  rcases h.2 with ⟨rfl, h0⟩ | ⟨g, cap, cur, rfl, h3, h4, h5, h6, h7⟩
  · exact ⟨none, 0, by rw [h0], by rw [h0]; exact Nat.zero_le _, .inl (List.length_eq_zero_iff.1 h0)⟩
  · refine ⟨_, cap, rfl, Nat.le_trans h4 h5, .inr ⟨g, 0, rfl, (Array.getElem?_eq_some_iff.1 h3).1, fun j hj => ⟨fun i hi => ?_, hk _ (List.getElem_mem hj)⟩⟩⟩
    have := hc (g := g) rfl (j * 2 + i) ((c2r L[j])[i]'hi) (by rw [flat2r L j hj i hi]; exact List.getElem?_eq_getElem hi)
    have ea : (⟨g, 0, none⟩ : Addr).add (j * 2 + i) = ⟨g, 0 + (j * 2 + i), none⟩ := by simp [Addr.add]; omega
    rw [ea] at this
    exact this
theorem RsR.ok {w : World} {v : Value} {L : List Rc} (h : RsR w v L) : ∀ x ∈ L, RcOk w x := by
  intro x hx
  obtain ⟨j, hj, rfl⟩ := List.getElem_of_mem hx
  obtain ⟨a, cap, rfl, _⟩ := h.form
  obtain ⟨_, _, _, _, _, hk⟩ := h.at hj
  exact hk
theorem rsr_nil (w : World) : RsR w (.slice none 0 0) [] := ⟨none, 0, rfl, Nat.zero_le _, .inl rfl⟩
/-- The type of a row's elements. -/
structure RTy (S T : TypeId) : Prop where
  und : Tryz.prog.underlying S = some (.slice T)
  inf : (Tryz.prog.info? T).map (fun i => (i.zero, i.size, i.bytes)) = some (some (.agg #[.slice none 0 0, .int .i64 0]), 2, 32)
theorem rtyW : RTy 33 37 := ⟨Tryz.underlying33, by kernel_rfl⟩
theorem rtyR : RTy 44 76 := ⟨Tryz.underlying44, by kernel_rfl⟩
theorem run_appRc {S T : TypeId} (hT : RTy S T) {w : World} (ty : TypeId) (v : Value) (L : List Rc) (x : Rc) (hxv : ∃ a n c, x.v = .slice a n c) (h : GOwn w T 2 v L.length (L.flatMap c2r)) (hk : ∀ k, v.ownBlock = some k → k < w.heap.size) (hl : L.length < 1099511627776) :
    ∃ v' w', (Builtin.append_ #[S, S] ty #[v, .slice (some ⟨w.heap.size, 0, none⟩) 1 1]).run Tryz.prog (w.alloc (.cells #[x.v, .int .i64 x.m] T)) = .ok v' w' ∧ GOwn w' T 2 v' (L ++ [x]).length ((L ++ [x]).flatMap c2r) ∧ (w.alloc (.cells #[x.v, .int .i64 x.m] T)).grownBy w' v.ownBlock ∧ (∀ k, v'.ownBlock = some k → v.ownBlock = some k ∨ (w.heap.size ≤ k ∧ k < w'.heap.size)) := by
  obtain ⟨i0, hi, hz0, hz1, hz2⟩ := info_parts hT.inf
  have h0 : GOwn (w.alloc (.cells #[x.v, .int .i64 x.m] T)) T 2 v L.length (L.flatMap c2r) := h.keep fun k hq => Below.heap_alloc _ _ _ (hk k hq)
  have hb4 := heap_alloc_new w (.cells #[x.v, .int .i64 x.m] T)
  have hsr : GSrc (w.alloc (.cells #[x.v, .int .i64 x.m] T)) 2 (.slice (some ⟨w.heap.size, 0, none⟩) 1 1) 1 (c2r x) := by
    refine ⟨rfl, .inr ⟨_, _, rfl, fun k u hq => ?_⟩⟩
    match k, hq with
    | 0, hq => simp [c2r] at hq; subst hq; exact cell_of hb4 0 _ rfl
    | 1, hq => simp [c2r] at hq; subst hq; exact cell_of hb4 1 _ rfl
  obtain ⟨v', w', h1, h2, h3, h4⟩ := run_gapp (P := Tryz.prog) S ty T i0 _ 2 32 hT.und hi hz0 hz1 hz2 rfl v L.length _ h0 _ 1 (c2r x) hsr (by
    obtain ⟨a, n, c, hv⟩ := hxv
    intro u hu
    simp only [c2r, List.mem_cons, List.not_mem_nil, or_false] at hu
    rcases hu with rfl | rfl
    · rw [hv]; rfl
    · rfl) (by simp only [maxLen]; omega) (by omega)
  refine ⟨v', w', h1, ?_, h3, fun k hq => ?_⟩
  · rw [List.length_append, List.flatMap_append]
    have : [x].flatMap c2r = c2r x := by simp
    rw [this]; exact h2
  · rcases h4 k hq with h | h
    · exact .inl h
    · exact .inr ⟨by have := h.1; simp at this; omega, h.2⟩
theorem RcOk.slice {w : World} {r : Rc} (h : RcOk w r) : ∃ a n c, r.v = .slice a n c := by
  obtain ⟨a, cap, hv, _⟩ := h.f.form
  exact ⟨a, _, cap, hv⟩
/-- A row of one's own whose records hang on no block of the row. -/
structure RB (T : TypeId) (base : Nat) (W : World) (v : Value) (L : List Rc) : Prop where
  o : GOwn W T 2 v L.length (L.flatMap c2r)
  k : ∀ k, v.ownBlock = some k → base ≤ k ∧ k < W.heap.size
  s : ∀ x ∈ L, ∀ B : World, (∀ k, base ≤ k → k < W.heap.size → v.ownBlock ≠ some k → B.heap[k]? = W.heap[k]?) → RcOk B x
theorem RB.nil (T : TypeId) (base : Nat) (W : World) : RB T base W (.slice none 0 0) [] := ⟨GOwn.nil _ _ _, fun k hk => by simp [Value.ownBlock] at hk, fun x hx => by cases hx⟩
theorem RB.below {T : TypeId} {base : Nat} {W W' : World} {v : Value} {L : List Rc} (h : RB T base W v L) (hb : Below W.heap.size W W') : RB T base W' v L :=
  ⟨h.o.keep fun k hk => hb.block k (h.k k hk).2, fun k hk => ⟨(h.k k hk).1, Nat.lt_of_lt_of_le (h.k k hk).2 hb.size⟩, fun x hx B hB => h.s x hx B fun k h0 h1 h2 => (hB k h0 (Nat.lt_of_lt_of_le h1 hb.size) h2).trans (hb.block k h1)⟩
theorem RB.rsr {T : TypeId} {base : Nat} {W : World} {v : Value} {L : List Rc} (h : RB T base W v L) : RsR W v L := rsr_of h.o fun x hx => h.s x hx W fun _ _ _ _ => rfl
/-- What is read hangs on what came behind the base alone. -/
theorem RB.far {T : TypeId} {base : Nat} {W : World} {v : Value} {L : List Rc} (h : RB T base W v L) (B : World) (hB : ∀ k, base ≤ k → k < W.heap.size → B.heap[k]? = W.heap[k]?) : RsR B v L :=
  rsr_of (h.o.keep fun k hk => hB k (h.k k hk).1 (h.k k hk).2) fun x hx => h.s x hx B fun k h0 h1 _ => hB k h0 h1
theorem RB.app {S T : TypeId} (hT : RTy S T) {base : Nat} {W0 W : World} {v : Value} {L : List Rc} (h : RB T base W0 v L) (hb : Below W0.heap.size W0 W) (hbs : base ≤ W0.heap.size) (x : Rc) (hx : ∀ B : World, (∀ k, W0.heap.size ≤ k → k < W.heap.size → B.heap[k]? = W.heap[k]?) → RcOk B x) (ty : TypeId) (hl : L.length < 1099511627776) :
    ∃ v' w', (Builtin.append_ #[S, S] ty #[v, .slice (some ⟨W.heap.size, 0, none⟩) 1 1]).run Tryz.prog (W.alloc (.cells #[x.v, .int .i64 x.m] T)) = .ok v' w' ∧ RB T base w' v' (L ++ [x]) ∧ Below base W w' := by
  have h0 := h.below hb
  obtain ⟨v', w', h1, h2, h3, h4⟩ := run_appRc hT ty v L x (hx W fun _ _ _ => rfl).slice h0.o (fun k hk => (h0.k k hk).2) hl
  have hsz := h3.size
  simp only [World.size_alloc] at hsz
  have hbW : base ≤ W.heap.size := Nat.le_trans hbs hb.size
  have keep : ∀ k, k < W.heap.size → v.ownBlock ≠ some k → w'.heap[k]? = W.heap[k]? := fun k hk hq => (h3.block k (by simp; omega) (fun e => hq e.symm)).trans (Below.heap_alloc _ _ _ hk)
  refine ⟨v', w', h1, ⟨h2, fun k hk => ?_, fun y hy B hB => ?_⟩, ?_⟩
  · rcases h4 k hk with q | q
    · have := h0.k k q; omega
    · omega
  · have hB' : ∀ k, base ≤ k → k < W.heap.size → v.ownBlock ≠ some k → B.heap[k]? = W.heap[k]? := fun k h0 hk hq => (hB k h0 (by omega) (fun e => by
      rcases h4 k e with q | q
      · exact hq q
      · omega)).trans (keep k hk hq)
    rcases List.mem_append.1 hy with hy | hy
    · exact h0.s y hy B hB'
    · simp at hy
      subst hy
      exact hx B fun k g1 g2 => hB' k (by omega) g2 (fun e => by have := (h.k k e).2; omega)
  · have hba : Below base W (W.alloc (.cells #[x.v, .int .i64 x.m] T)) := (Below.refl _ _).alloc hbW _
    exact hba.grown h3 (by simp; omega) (fun k hk => (h0.k k hk).1)
/-- Frames, up to the first that is none. -/
theorem rcF_none {d : List UInt8} {ds : List (List UInt8)} (h : rdR d = none) : rcF (d :: ds) = [] := by rw [rcF, h]
theorem rcF_some {d : List UInt8} {ds : List (List UInt8)} {q : List Fc × Int} (h : rdR d = some q) : rcF (d :: ds) = q :: rcF ds := by rw [rcF, h]
end Go.Proofs.YtegcomopcoapjaaGreatDoor
