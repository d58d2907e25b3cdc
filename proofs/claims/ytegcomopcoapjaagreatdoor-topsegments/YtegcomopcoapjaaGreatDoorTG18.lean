/- WC5, joined. -/
import Derived.Test.YtegcomopcoapjaaGreatDoorTG10
import Derived.Test.YtegcomopcoapjaaGreatDoorTG17
import Derived.Maps.OwnIn
/- wal: the record that bytes may be. -/
namespace Go.Proofs.YtegcomopcoapjaaGreatDoor
open Go.RowKit Go.Shelf
attribute [local go_sem] Oper.semAt_some

/-- What is read of facts hangs on what came since alone. -/
def FNew (w w' : World) (fv : Value) (fs : List Fa) : Prop := ∀ B : World, (∀ k, w.heap.size ≤ k → k < w'.heap.size → B.heap[k]? = w'.heap[k]?) → FReads B fv fs
theorem row_new {A B : World} {base : Nat} {e : TypeId} {size : Nat} {v : Value} {k : Nat} {xs : List Value} (h : A.ownsRow base e size v k xs) (hk : ∀ k, base ≤ k → k < A.heap.size → B.heap[k]? = A.heap[k]?) : B.ownsRow base e size v k xs := by
  obtain ⟨h1, h2⟩ := h
  refine ⟨h1, ?_⟩
  rcases h2 with h2 | ⟨g, cap, cur, hv, hg, hw, r⟩
  · exact .inl h2
  · exact .inr ⟨g, cap, cur, hv, hg, (hk g hg (Array.getElem?_eq_some_iff.1 hw).1).trans hw, r⟩
/-- What guessed tells. -/
def GuPost (w : World) (b : List UInt8) (e : Ending) (w' : World) : Prop := Below w.heap.size w w' ∧ ∃ fv fs, e = .returned (.agg #[fv, .int .i64 (guF b).2]) ∧ FNew w w' fv fs ∧ fs.map Fa.p = (guF b).1
set_option maxRecDepth 100000 in
theorem facts_in (n : Nat) (v : Value) (bs : List UInt8) (w : World) (hR : Reads w v bs) :
    CallsIn Fence.wide n Tryz.prog 67 #[v] w fun e w' => e = .returned (.func (.func 76) #[] #[.pointer (some ⟨w.heap.size, 0, none⟩)]) ∧ w' = w.alloc (.cells #[v] 61) := by
  obtain ⟨a, cap, rfl, _⟩ := hR.form
  refine callsIn_of_wp Tryz.func67 rfl trivial ?_ rfl
  simp only [Tryz.ntmps67, List.size_toArray, List.length_cons, List.length_nil, Nat.reduceAdd, Nat.reduceSub, Array.replicate_succ, Array.replicate_zero, List.push_toArray, List.append_toArray, List.nil_append, List.cons_append]
  gi_wp2
  go_ret
  exact ⟨rfl, rfl⟩
theorem freads_nil (w : World) : FReads w (.slice none 0 0) [] := ⟨none, 0, rfl, by simp, by simp, .inl rfl⟩
theorem results_c1 {fn : Func} {p : Tmp} {ty : TypeId} (h : fn.results = #[.cell p ty]) (tmps : Array Value) (w : World) (g : Nat) (cs : Array Value)
    (hp : tmps.getD p undef = .pointer (some ⟨g, 0, none⟩)) (hl : (loadVar ty ⟨g, 0, none⟩).run Tryz.prog w = .ok (.agg cs) w) :
    (results fn tmps).run Tryz.prog w = .ok (.agg cs) w := by
  have hp' : tmps[p]?.getD undef = .pointer (some ⟨g, 0, none⟩) := by simpa using hp
  simp [results, h, hp', asAddr, hl]
theorem set2b {w : World} {g : Nat} {cs : Array Value} {T : TypeId} (h : w.heap[g]? = some (.cells cs T)) (hc : cs.size = 2) (a b : Value) : ((w.setCell ⟨g, 0, none⟩ a).setCell ⟨g, 1, none⟩ b).heap[g]? = some (.cells #[a, b] T) := by
  rw [cells_set (cells_set h 0 a) 1 b]
  obtain ⟨l⟩ := cs
  match l, hc with
  | [x, y], _ => rfl
theorem keepsO_below {A B : World} (h : Below A.heap.size A B) : KeepsOthers A B := ⟨h.size, fun k _ hk _ => (h.block k (Array.getElem?_eq_some_iff.1 hk).1).trans hk⟩
def c3v (x : Fa) : List Value := c3 x
structure IGu (w : World) (X : Nat) (pre : List Fa) (W : World) : Prop where
  r : ∃ fv, W.heap[w.heap.size + 1]? = some (.cells #[fv, .int .i64 (-1)] 37) ∧ W.ownsRow w.heap.size 60 3 fv pre.length (pre.flatMap c3) ∧ (∀ k, fv.ownBlock = some k → k ≠ X)
  z : W.heap[w.heap.size]? = some (.cells #[.slice none 0 0, .int .i64 0] 37)
  s : ∀ x ∈ pre, SOwn W w.heap.size x.v x.D ∧ FaB x ∧ (∀ k, x.v.ownBlock = some k → k ≠ X)
  b : Below w.heap.size w W
  m : (pre.map Fa.p).all mayP = true
  l : pre.length ≤ 16
  x : w.heap.size + 2 ≤ X
theorem row_kcx {X n : Nat} {A B : World} {base : Nat} {e : TypeId} {size : Nat} {v : Value} {k : Nat} {xs : List Value} (h : A.ownsRow base e size v k xs) (hk : KcX X n A B) (hx : ∀ k, v.ownBlock = some k → k ≠ X) : B.ownsRow base e size v k xs := by
  obtain ⟨h1, h2⟩ := h
  refine ⟨h1, ?_⟩
  rcases h2 with h2 | ⟨g, cap, cur, hv, hg, hw, r⟩
  · exact .inl h2
  · exact .inr ⟨g, cap, cur, hv, hg, hk.c _ _ _ _ (hx g (by rw [hv]; rfl)) hw, r⟩
theorem igu_kcx {w : World} (X : Nat) (pre : List Fa) (A B : World) (h : IGu w X pre A) (hk : KcX X w.heap.size A B) : IGu w X pre B := by
  obtain ⟨⟨fv, r1, r2, r3⟩, h2, h3, h4, h5, h6, h7⟩ := h
  exact ⟨⟨fv, hk.c _ _ _ _ (by omega) r1, row_kcx r2 hk r3, r3⟩, hk.c _ _ _ _ (by omega) h2, fun x hx => ⟨⟨row_kcx (h3 x hx).1.1 hk (h3 x hx).2.2, (h3 x hx).1.2⟩, (h3 x hx).2⟩, h4.trans hk.b, h5, h6, h7⟩
def IxGu (w : World) (bs : List UInt8) (X : Nat) (c : Code) (pre : List Fa) (W : World) : Prop :=
  c = .exit 0 ∧ ∃ pr x r r', pre = pr ++ [x] ∧ IGu w X pr W ∧ aftF (pr.map Fa.p) bs = some r ∧ rdF r = some (x.p, r') ∧ (mayP x.p = false ∨ pr.length = 16)
theorem ixgu_kcx {w : World} {bs : List UInt8} (X : Nat) (c : Code) (pre : List Fa) (A B : World) (h : IxGu w bs X c pre A) (hk : KcX X w.heap.size A B) : IxGu w bs X c pre B := by
  obtain ⟨h1, pr, x, r, r', h2, h3, h4⟩ := h
  exact ⟨h1, pr, x, r, r', h2, igu_kcx X pr A B h3 hk, h4⟩
theorem sown_kc {n : Nat} {A B : World} {base : Nat} {v : Value} {L : List ByteArray} (h : SOwn A base v L) (hk : Kc n A B) : SOwn B base v L := by
  obtain ⟨⟨h1, h2⟩, h3⟩ := h
  refine ⟨⟨h1, ?_⟩, h3⟩
  rcases h2 with h2 | ⟨g, cap, cur, hv, hg, hw, r⟩
  · exact .inl h2
  · exact .inr ⟨g, cap, cur, hv, hg, hk.c _ _ _ _ hw, r⟩
theorem ga_done {bs : List UInt8} {xs : List Fa} (h : SFs bs xs) (hm : (xs.map Fa.p).all mayP = true) (hl : xs.length ≤ 16) : gaF 16 bs = xs.map Fa.p := by
  obtain ⟨r, h1, h2⟩ := h
  rw [ga_aft _ _ _ 16 h1 hm (by simpa using hl)]
  have : gaF (16 - (xs.map Fa.p).length) r = [] := by
    cases 16 - (xs.map Fa.p).length with
    | zero => rfl
    | succ k => rw [gaF, h2]
  rw [this, List.append_nil]
theorem ga_left {bs : List UInt8} {pr : List Fa} {x : Fc} {r r' : List UInt8} (h1 : aftF (pr.map Fa.p) bs = some r) (h2 : rdF r = some (x, r')) (h3 : mayP x = false ∨ pr.length = 16) (hm : (pr.map Fa.p).all mayP = true) (hl : pr.length ≤ 16) : gaF 16 bs = pr.map Fa.p := by
  rw [ga_aft _ _ _ 16 h1 hm (by simpa using hl)]
  have : gaF (16 - (pr.map Fa.p).length) r = [] := by
    rcases h3 with h3 | h3
    · cases 16 - (pr.map Fa.p).length with
      | zero => rfl
      | succ k => rw [gaF, h2]; simp [h3]
    · rw [List.length_map, h3]; rfl
  rw [this, List.append_nil]
theorem infoFa2 : (Tryz.prog.info? 60).map (fun i => (i.zero, i.size, i.bytes)) = some (some (.agg #[.slice none 0 0, .int .i64 0, .int .i64 0]), 3, 40) := by kernel_rfl
theorem c3_len2 (f : Fa) : (c3 f).length = 3 := rfl
theorem flat3b : ∀ (xs : List Fa) (j i : Nat) (hj : j < xs.length), i < 3 → (xs.flatMap c3)[3 * j + i]? = (c3 xs[j])[i]?
  | [], j, i, hj, _ => by simp at hj
  | x :: xs, 0, i, _, hi => by
    rw [List.flatMap_cons, List.getElem?_append_left (by rw [c3_len2]; omega)]; simp
  | x :: xs, j + 1, i, hj, hi => by
    rw [List.flatMap_cons, List.getElem?_append_right (by rw [c3_len2]; omega), c3_len2, show 3 * (j + 1) + i - 3 = 3 * j + i by omega]
    exact flat3b xs j i (by simpa using hj) hi
theorem igu_reads {W : World} {base : Nat} {fv : Value} {pre : List Fa} (h : W.ownsRow base 60 3 fv pre.length (pre.flatMap c3)) (hs : ∀ x ∈ pre, SReads W x.v x.D ∧ FaB x) : FReads W fv pre := by
  have hlt := World.ownsRow.lt h
  rcases h.2 with ⟨h1, h2⟩ | ⟨g, cap, cur, hv, hg, hw, hc, hm, _⟩
  · have : pre = [] := List.length_eq_zero_iff.1 h2
    subst this
    rw [h1]; exact freads_nil W
  · have hr := h
    rw [hv] at hr
    refine ⟨some ⟨g, 0, none⟩, cap, hv, hc, hm, ?_⟩
    refine .inr ⟨g, 0, rfl, (hlt g (by rw [hv]; rfl)).2, fun j hj => ⟨fun i hi => ?_, hs _ (List.getElem_mem hj)⟩⟩
    have hlen : (pre.flatMap c3).length = pre.length * 3 := h.1
    have c := World.ownsRow.cellAt hr (3 * j + i) (by omega)
    rw [flat3b pre j i hj hi] at c
    rw [show 0 + j * 3 + i = 3 * j + i by omega, c]
    exact List.getElem?_eq_getElem (show i < (c3 pre[j]).length from hi)
theorem pref_kc {w : World} {bs : List UInt8} (pre : List Fa) (x : Fa) (X : Nat) (A B : World) (h : PreF w bs pre x X A) (hk : Kc w.heap.size A B) : PreF w bs pre x X B := by
  obtain ⟨h1, h2, ⟨cs, h3⟩, h4⟩ := h
  exact ⟨sown_kc h1 hk, h2, ⟨cs, hk.c _ _ _ _ h3⟩, h4⟩
theorem row_formS {w : World} {base n size : Nat} {e : TypeId} {v : Value} {xs : List Value} (h : w.ownsRow base e size v n xs) : ∃ a c, v = .slice a n c := by
  rcases h.2 with ⟨h1, h2⟩ | ⟨g, cap, cur, h1, _⟩
  · exact ⟨none, 0, by rw [h1, h2]⟩
  · exact ⟨_, cap, h1⟩
theorem news3 {w : World} {x y z : Value} {t : TypeId} : ∀ j u, [x, y, z][j]? = some u → (w.alloc (.cells #[x, y, z] t)).cell? ((⟨w.heap.size, 0, none⟩ : Addr).add j) = some u := by
  intro j u h
  match j, h with
  | 0, h => simp at h; subst h; simp [Addr.add]
  | 1, h => simp at h; subst h; simp [Addr.add]
  | 2, h => simp at h; subst h; simp [Addr.add]
theorem row_ne {w : World} {base n size : Nat} {e T : TypeId} {v : Value} {xs : List Value} {g : Nat} {cs : Array Value} (h : w.ownsRow base e size v n xs) (hg : w.heap[g]? = some (.cells cs T)) (hT : T ≠ e) : some g ≠ v.ownBlock := by
  intro e2
  rcases h.2 with ⟨rfl, _⟩ | ⟨g', cap, cur, rfl, _, hw, _⟩
  · simp [Value.ownBlock] at e2
  · obtain rfl : g = g' := by simpa [Value.ownBlock] using e2
    rw [hg] at hw
    simp at hw
    exact hT hw.2
theorem sown_to {A B : World} {base : Nat} {v : Value} {L : List ByteArray} (h : SOwn A base v L) (hk : ∀ (g : Nat) (cur : Array Value), A.heap[g]? = some (Obj.cells cur 9 (0, 0)) → B.heap[g]? = A.heap[g]?) : SOwn B base v L := by
  obtain ⟨⟨h1, h2⟩, h3⟩ := h
  refine ⟨⟨h1, ?_⟩, h3⟩
  rcases h2 with h2 | ⟨g, cap, cur, hv, hg, hw, r⟩
  · exact .inl h2
  · exact .inr ⟨g, cap, cur, hv, hg, (hk g cur hw).trans hw, r⟩
theorem sown_ne {A : World} {base X : Nat} {v : Value} {L : List ByteArray} {cs : Array Value} {T : TypeId} (h : SOwn A base v L) (hX : A.heap[X]? = some (.cells cs T)) (hT : T ≠ 9) : ∀ k, v.ownBlock = some k → k ≠ X := by
  intro k hk e
  subst e
  exact row_ne h.1 hX hT hk.symm
theorem igu_step {w W w3 w4 : World} {X : Nat} {pre : List Fa} {x : Fa} {fv vq : Value} {cs : Array Value} (tmp : Obj) (hI : IGu w X pre w3) (hR : w3.heap[w.heap.size + 1]? = some (.cells #[fv, .int .i64 (-1)] 37))
    (hrow : w3.ownsRow w.heap.size 60 3 fv pre.length (pre.flatMap c3)) (hnX : ∀ k, fv.ownBlock = some k → k ≠ X) (hb3 : Below W.heap.size W w3) (hXl : X < W.heap.size) (hXc : W.heap[X]? = some (.cells cs 60)) (hWb : Below w.heap.size w W)
    (hso : SOwn W w.heap.size x.v x.D) (hfb : FaB x) (hmay : mayP x.p = true) (hle : pre.length ≤ 15)
    (hown : w4.ownsRow w.heap.size 60 3 vq (pre.length + 1) (pre.flatMap c3 ++ c3 x)) (hg : (w3.alloc tmp).grownBy w4 fv.ownBlock) (hwh : vq.ownBlock = fv.ownBlock ∨ vq.ownBlock = some (w3.alloc tmp).heap.size) :
    KeepsOthers W (w4.setCell ⟨w.heap.size + 1, 0, none⟩ vq) ∧ Below w.heap.size W (w4.setCell ⟨w.heap.size + 1, 0, none⟩ vq) ∧ (w4.setCell ⟨w.heap.size + 1, 0, none⟩ vq).heap[X]? = W.heap[X]? ∧ IGu w X (pre ++ [x]) (w4.setCell ⟨w.heap.size + 1, 0, none⟩ vq) := by
  have hXX := hI.x
  have hz3 := hb3.size
  have hx3 : X < w3.heap.size := by omega
  have hR3l := (Array.getElem?_eq_some_iff.1 hR).1
  have hnR : some (w.heap.size + 1) ≠ fv.ownBlock := row_ne hrow hR (by decide)
  have hR4 : w4.heap[w.heap.size + 1]? = some (.cells #[fv, .int .i64 (-1)] 37) := (hg.block _ (by simp; omega) hnR).trans ((Below.heap_alloc _ _ _ hR3l).trans hR)
  have hbase : ∀ k, fv.ownBlock = some k → w.heap.size ≤ k := own_block hrow
  have hrowc : ∀ (j : Nat) (o : Obj), fv.ownBlock = some j → (w3.alloc tmp).heap[j]? = some o → o.isCells = true := by
    intro j o hj ho
    rcases hrow.2 with ⟨rfl, _⟩ | ⟨g', cap, cur, rfl, _, hw, _⟩
    · simp [Value.ownBlock] at hj
    · obtain rfl : g' = j := by simpa [Value.ownBlock] using hj
      rw [Below.heap_alloc _ _ _ (Array.getElem?_eq_some_iff.1 hw).1, hw] at ho
      cases ho
      rfl
  have hws := hWb.size
  have bel4 : Below w.heap.size W w4 := ((hb3.mono hws).alloc (by omega) tmp).grown hg (by simp; omega) hbase
  have bel5 : Below w.heap.size W (w4.setCell ⟨w.heap.size + 1, 0, none⟩ vq) := bel4.setCell (p := ⟨w.heap.size + 1, 0, none⟩) (Nat.le_succ _) vq
  have keep3 : ∀ k, k < w3.heap.size → k ≠ w.heap.size + 1 → some k ≠ fv.ownBlock → (w4.setCell ⟨w.heap.size + 1, 0, none⟩ vq).heap[k]? = w3.heap[k]? := fun k h1 h2 h3 =>
    (Go.heap_setCell_other _ _ _ _ h2).trans ((hg.block k (by simp; omega) h3).trans (Below.heap_alloc _ _ _ h1))
  have toS : ∀ {v : Value} {L : List ByteArray}, SOwn w3 w.heap.size v L → SOwn (w4.setCell ⟨w.heap.size + 1, 0, none⟩ vq) w.heap.size v L := fun h => sown_to h fun g cur hgc =>
    keep3 g (Array.getElem?_eq_some_iff.1 hgc).1 (fun e => by rw [e, hR] at hgc; simp at hgc) (row_ne hrow hgc (by decide))
  have hX5 : (w4.setCell ⟨w.heap.size + 1, 0, none⟩ vq).heap[X]? = W.heap[X]? := (keep3 X hx3 (by omega) (fun e => hnX X e.symm rfl)).trans (hb3.block X hXl)
  refine ⟨(((keepsO_below hb3).trans (KeepsOthers.alloc w3 tmp)).trans (KeepsOthers.of_grownBy hg hrowc)).trans (KeepsOthers.setCell _ _ _), bel5, hX5, ⟨vq, ?_, ?_, ?_⟩, ?_, ?_, hWb.trans bel5, ?_, ?_, hXX⟩
  · rw [cells_set hR4 0 vq]; rfl
  · rw [List.length_append, List.flatMap_append]
    have hk := World.ownsRow.kept hown (grownBy_setCell' w4 (w.heap.size + 1) vq) (.inr ?_)
    · simpa using hk
    · intro e
      have := row_ne hown hR4 (by decide)
      exact this (by first | exact e | exact e.symm)
  · intro k hk e
    subst e
    rcases hwh with h | h
    · exact hnX k (h.symm.trans hk) rfl
    · rw [h] at hk; simp at hk; omega
  · exact (keep3 _ (Array.getElem?_eq_some_iff.1 hI.z).1 (by omega) (row_ne hrow hI.z (by decide))).trans hI.z
  · intro y hy
    rcases List.mem_append.1 hy with hy | hy
    · exact ⟨toS (hI.s y hy).1, (hI.s y hy).2⟩
    · simp at hy
      subst hy
      exact ⟨toS (hso.below hb3), hfb, sown_ne hso hXc (by decide)⟩
  · rw [List.map_append, List.all_append, hI.m]; simp [hmay]
  · rw [List.length_append]; simp; omega
theorem stopIn {F : Fence} {n : Nat} {P : Program} {ops : Array Oper} {Q : Exit → Act → World → Prop} {l : List Oper} {a : Act} {w : World} (h : Stop (wpListIn F n P ops Q l a w)) : wpListIn F n P ops Q l a w := h.out
set_option maxRecDepth 100000 in
set_option maxHeartbeats 4000000 in
theorem guessed_rows (c : UInt8) (b' : List UInt8) (h2 : ¬ c = 2) (len : Nat) (hlen : len = b'.length + 1) (hbl : b'.length ≤ 5000) (bb off cap : Nat) (w : World) (hR : Reads w (.slice (some ⟨bb, off, none⟩) len cap) (c :: b')) (hbw : bb < w.heap.size) (hc0 : w.cell? ⟨bb, off, none⟩ = some (bc c)) :
    Calls Tryz.prog 50 #[.slice (some ⟨bb, off, none⟩) len cap] w (GuPost w (c :: b')) := by
  have h2' : ¬ (c.toNat : Int) = 2 := fun e => h2 (UInt8.toNat_inj.1 (show c.toNat = 2 by omega))
  have hRl : Reads w (.slice (some ⟨bb, off, none⟩) (c :: b').length cap) (c :: b') := by rw [List.length_cons, ← hlen]; exact hR
  obtain ⟨a1, c1, hsl1, hrd1⟩ := sl_from hRl (c := 1) (by simp)
  obtain ⟨N, HN⟩ := hid_ex (rsF b' 0 0).2.1
  have HNl : Hid (N ≤ b'.length) := by
    unfold Hid
    rw [HN.out]
    by_cases e : (rsF b' 0 0).2.2 = 0
    · obtain ⟨u, q, h1, _, h3, _⟩ := rsF_ok b' 0 0 (rsF b' 0 0).1 (rsF b' 0 0).2.1 (by rw [← e]) (by omega) (by simp)
      omega
    · rw [(rsF_bad b' 0 0 e).2]; omega
  obtain ⟨a3, c3', hsl3, hrd3⟩ := sl_from hRl (c := 1 + N) (by have := HNl.out; simp; omega)
  have HR1 : Hid (Reads w (.slice a1 ((c :: b').length - 1) c1) b') := hrd1
  obtain ⟨bs, HBs⟩ := hid_ex (b'.drop N)
  have HR3 : Hid (Reads w (.slice a3 ((c :: b').length - (1 + N)) c3') bs) := by
    rw [HBs.out]
    have e : (c :: b').drop (1 + N) = b'.drop N := by rw [Nat.add_comm]; rfl
    rw [← e]
    exact hrd3
  have HGu : Hid (guF (c :: b') = (gaF 16 bs, -1)) := by unfold Hid; rw [guF, if_neg h2, HBs.out, HN.out]
  have HBl : Hid (bs.length ≤ 10000) := by unfold Hid; rw [HBs.out, List.length_drop]; omega
  rw [List.length_cons, ← hlen] at hsl1 HR1 hsl3 HR3
  have hsl2 : ∀ w', (Instr.slice 61 (.slice (some ⟨bb, off, none⟩) len cap) (some (.int .i64 1)) none none).run Tryz.prog w' = .ok (.slice a1 (len - 1) c1) w' := hsl1
  have hsl4 : ∀ w', (Instr.slice 61 (.slice (some ⟨bb, off, none⟩) len cap) (some (.int .i64 (1 + (N : Int)))) none none).run Tryz.prog w' = .ok (.slice a3 (len - (1 + N)) c3') w' := by
    intro w'
    have := hsl3 w'
    push_cast at this
    exact this
  have hlz : ¬ (len : Int) = 0 := by omega
  have HNb : Hid (N ≤ 5000) := by have := HNl.out; unfold Hid; omega
  have hN5 : (N : Int) ≤ 5000 := by have := HNb.out; omega
  have HRS : Hid (∀ W, Below w.heap.size w W → Calls Tryz.prog 66 #[.slice a1 (len - 1) c1] W fun e w' => e = .returned (.tuple #[.int .u64 (rsF b' 0 0).1, .int .i64 (N : Int), .int .i64 (rsF b' 0 0).2.2]) ∧ Below W.heap.size W w') := by
    intro W hW
    rw [HN.out]
    exact readShort_any _ b' W (HR1.out.below hW)
  have hc1 : ((w.alloc (.cells #[.slice none 0 0, .int .i64 0] 37)).alloc (.cells #[.slice none 0 0, .int .i64 (-1)] 37)).cell? ⟨bb, off, none⟩ = some (.int .u8 (c.toNat : Int)) := ((((Below.refl w.heap.size w).alloc (Nat.le_refl _) _).alloc (by simp) _).cell (p := ⟨bb, off, none⟩) hbw).trans hc0
  obtain ⟨i0, hi, hz0, hz1, hz2⟩ := info_parts infoFa2
  clear hsl1 hsl3 hrd1 hrd3 HBs HN HNl hRl hR hc0 hlen hbl
  refine (callsIn_wide (n := 9)).1 ?_
  refine callsIn_of_wp_marks Tryz.func50 rfl trivial ?_ rfl
  simp only [Tryz.ntmps50, List.size_toArray, List.length_cons, List.length_nil, Nat.reduceAdd, Nat.reduceSub, Array.replicate_succ, Array.replicate_zero, List.push_toArray, List.append_toArray, List.nil_append, List.cons_append]
  refine wpIn_wide.2 ?_
  go_wp2_with fail
  go_step3
  go_wp2_with fail
  refine (HRS.out _ (((Below.refl _ _).alloc (Nat.le_refl _) _).alloc (by simp) _)).mono ?_
  rintro e w1 ⟨rfl, hb1⟩
  have HK0 : Hid (w1.heap[w.heap.size]? = some (.cells #[.slice none 0 0, .int .i64 0] 37)) := (hb1.block _ (by simp; omega)).trans ((Below.heap_alloc _ _ _ (by simp)).trans (World.alloc_heap_new _ _))
  have HK1 : Hid (w1.heap[w.heap.size + 1]? = some (.cells #[.slice none 0 0, .int .i64 (-1)] 37)) := by
    refine (hb1.block _ (by simp)).trans ?_
    have := World.alloc_heap_new (w.alloc (.cells #[.slice none 0 0, .int .i64 0] 37)) (.cells #[.slice none 0 0, .int .i64 (-1)] 37)
    rwa [World.size_alloc] at this
  have HB1 : Hid (Below w.heap.size w w1) := (((Below.refl _ w).alloc (Nat.le_refl _) _).alloc (by simp) _).trans (hb1.mono (by simp; omega))
  clear hb1 hc1 HRS
  go_wp2_with fail
  go_step3
  go_wp2_with fail
  refine (callsIn_wide.1 (facts_in 5 _ bs _ (HR3.out.below HB1.out))).mono ?_
  rintro e w2 ⟨rfl, hw2⟩
  subst hw2
  have HK2 : Hid ((w1.alloc (.cells #[.slice a3 (len - (1 + N)) c3'] 61)).heap[w.heap.size]? = some (.cells #[.slice none 0 0, .int .i64 0] 37)) := (Below.heap_alloc _ _ _ (Array.getElem?_eq_some_iff.1 HK0.out).1).trans HK0.out
  have HK3 : Hid ((w1.alloc (.cells #[.slice a3 (len - (1 + N)) c3'] 61)).heap[w.heap.size + 1]? = some (.cells #[.slice none 0 0, .int .i64 (-1)] 37)) := (Below.heap_alloc _ _ _ (Array.getElem?_eq_some_iff.1 HK1.out).1).trans HK1.out
  have HK4 : Hid ((w1.alloc (.cells #[.slice a3 (len - (1 + N)) c3'] 61)).heap[w1.heap.size]? = some (.cells #[.slice a3 (len - (1 + N)) c3'] 61)) := World.alloc_heap_new _ _
  have HB2 : Hid (Below w.heap.size w (w1.alloc (.cells #[.slice a3 (len - (1 + N)) c3'] 61))) := HB1.out.alloc HB1.out.size _
  have hzw : w.heap.size + 1 < w1.heap.size := (Array.getElem?_eq_some_iff.1 HK1.out).1
  obtain ⟨R1, HR1'⟩ := hid_ex (rsF b' 0 0).1
  obtain ⟨R2, HR2'⟩ := hid_ex (rsF b' 0 0).2.2
  rw [← HR1'.out, ← HR2'.out]
  clear HR1' HR2' HK0 HK1 hsl2 hsl4
  go_wp2_with fail
  refine wpIn_wide.1 (wpIn_range_w (F := Fence.wide) (n := 9) rfl (by decide) (gf := 76) (lb := #[.pointer (some ⟨w1.heap.size, 0, none⟩)]) rfl trivial (enters_of Tryz.func76 (by kernel_rfl) rfl) (encs := Fa.encs) (fun _ => rfl) (IGu w) (IxGu w bs) (PreF w bs) (SFs bs) (fun _ => True) w.heap.size (by simp; omega)
    (fun l J Jx W hK hn₀ hJ hJx hY h0 => facts1_in (9 - 1) (by decide) l w1.heap.size _ bs HBl.out w HR3.out J Jx W (HB2.out.trans hK.b) hJ hY (cl3 (hK.c _ _ _ _ HK4.out) 0 (by simp)) h0)
    igu_kcx ixgu_kcx pref_kc (fun X hX => ⟨⟨.slice none 0 0, HK3.out, World.ownsRow_nil _ _ _ _, fun k hk => by cases hk⟩, HK2.out, fun x hx => by simp at hx, HB2.out, rfl, by simp, by simp at hX; omega⟩)
    (fun x b => { tmps := #[.slice (some ⟨bb, off, none⟩) len cap, undef, .pointer (some ⟨w.heap.size, 0, none⟩), .pointer (some ⟨w.heap.size + 1, 0, none⟩), .int .u64 (R1 : Int), .int .i64 (N : Int), .int .i64 R2, .pointer (some ⟨b, 0, none⟩), .agg #[.slice none 0 0, .int .i64 (-1)], .slice (some ⟨bb, off, none⟩) len cap, .int .i64 (len : Int), .bool false, undef, .slice (some ⟨bb, off, none⟩) len cap, .pointer (some ⟨bb, off, none⟩), .int .u8 (c.toNat : Int), .bool false, undef, undef, undef, undef, undef, undef, undef, undef, undef, .tuple #[.int .u64 (R1 : Int), .int .i64 (N : Int), .int .i64 R2], .slice (some ⟨bb, off, none⟩) len cap, .slice a1 (len - 1) c1, .tuple #[.int .u64 (R1 : Int), .int .i64 (N : Int), .int .i64 R2], .int .u64 (R1 : Int), .int .i64 (N : Int), .int .i64 R2, .slice (some ⟨bb, off, none⟩) len cap, .int .i64 (N : Int), .int .i64 (1 + (N : Int)), (.slice a3 (len - (1 + N)) c3'), .func (.func 76) #[] #[.pointer (some ⟨w1.heap.size, 0, none⟩)], .agg #[x.v, .int .i64 x.t, .int .i64 x.x], undef, undef, undef, undef, undef, undef, undef, undef, undef, undef, undef, undef, undef, undef], defers := [] })
    (fun x W => W.alloc (.cells #[x.v, .int .i64 x.t, .int .i64 x.x] 60)) (fun x W => (Below.refl _ _).alloc (Nat.le_refl _) _) ?assign ?body ?done ?left)
  case assign =>
    rintro l X pre ⟨xv, xD, xt, xx⟩ W K hp hK
    obtain ⟨ao, co, hov⟩ := row_form2 hp.1.1
    dsimp only at hov
    subst hov
    dsimp only [Fa.encs] at hK ⊢
    gi_wp2
    exact hK
  case body =>
    rintro l X pre ⟨xv, xD, xt, xx⟩ W₁ W hI hp hX0 hX1 hs1 hKc
    obtain ⟨hso, hfb, ⟨cs, hXc⟩, r, r', haf, hrd⟩ := hp
    dsimp only at hso
    obtain ⟨ao, co, hov⟩ := row_form2 hso.1
    subst hov
    obtain ⟨⟨fv, r1, r2, r3⟩, hz, hs, hb, hm, hle, hxx⟩ := id hI
    have hXB : W.heap[W₁.heap.size]? = some (.cells #[.slice ao xD.length co, .int .i64 xt, .int .i64 xx] 60) := hKc.c _ _ _ _ (World.alloc_heap_new _ _)
    have HI : Hid (IGu w X pre W) := hI
    have HAF : Hid (aftF (pre.map Fa.p) bs = some r ∧ rdF r = some ((⟨.slice ao xD.length co, xD, xt, xx⟩ : Fa).p, r')) := ⟨haf, hrd⟩
    have HSO : Hid (SOwn W w.heap.size (.slice ao xD.length co) xD) := hso
    have HFB : Hid (FaB ⟨.slice ao xD.length co, xD, xt, xx⟩) := hfb
    have HXC : Hid (∃ cs, W.heap[X]? = some (.cells cs 60)) := ⟨cs, hXc⟩
    have HXlt : Hid (X < W.heap.size) := (Array.getElem?_eq_some_iff.1 hXc).1
    have HMN : Hid (CallsIn (Fence.wide.inRound l) (9 - 1 - 1 - 1) Tryz.prog 59 #[.agg #[.slice ao xD.length co, .int .i64 xt, .int .i64 xx]] W fun e w' => e = .returned (.bool (!mayP (⟨.slice ao xD.length co, xD, xt, xx⟩ : Fa).p)) ∧ Below W.heap.size W w') := (callsIn_wide.2 (mayNot_any ⟨.slice ao xD.length co, xD, xt, xx⟩ W ⟨hso.reads, hfb⟩)).inRound l
    obtain ⟨q, HQ⟩ := hid_ex (mayP (⟨.slice ao xD.length co, xD, xt, xx⟩ : Fa).p)
    rw [← HQ.out] at HMN
    have x0 := cl3 hXB 0 (by simp)
    have x1 := cl3 hXB 1 (by simp)
    have x2 := cl3 hXB 2 (by simp)
    simp only [List.getElem_toArray, List.getElem_cons_succ, List.getElem_cons_zero] at x0 x1 x2
    obtain ⟨av, cv, hvf⟩ := row_formS r2
    subst hvf
    have HR1w : Hid (W.heap[w.heap.size + 1]? = some (.cells #[.slice av pre.length cv, .int .i64 (-1)] 37)) := r1
    have HR2w : Hid (W.ownsRow w.heap.size 60 3 (.slice av pre.length cv) pre.length (pre.flatMap c3)) := r2
    have HR3w : Hid (∀ k, (Value.slice av pre.length cv).ownBlock = some k → k ≠ X) := r3
    have HXB : Hid (W.heap[W₁.heap.size]? = some (.cells #[.slice ao xD.length co, .int .i64 xt, .int .i64 xx] 60)) := hXB
    have HXX : Hid (w.heap.size + 2 ≤ X) := hxx
    have HLE : Hid (pre.length ≤ 16) := hle
    have hle' : (pre.length : Int) ≤ 16 := by omega
    clear hso hfb hXc haf hrd hI r1 r2 r3 hz hs hb hm hXB hxx hX0 hX1 hs1 hKc hle
    gi_wp2_with fail
    refine ⟨trivial, ?_⟩
    refine HMN.out.mono ?_
    rintro e w3 ⟨rfl, hb3⟩
    have HB3 : Hid (Below W.heap.size W w3) := hb3
    have HI3 : Hid (IGu w X pre w3) := igu_kcx X pre W w3 HI.out (KcX.of_kc (Kc.of_below hb3 HI.out.b.size))
    have HRB : Hid (w3.heap[w.heap.size + 1]? = some (.cells #[.slice av pre.length cv, .int .i64 (-1)] 37)) := (hb3.block _ (Array.getElem?_eq_some_iff.1 HR1w.out).1).trans HR1w.out
    have HXB3 : Hid (w3.heap[W₁.heap.size]? = some (.cells #[.slice ao xD.length co, .int .i64 xt, .int .i64 xx] 60)) := (hb3.block _ (Array.getElem?_eq_some_iff.1 HXB.out).1).trans HXB.out
    clear hb3 x0 x1 x2 HMN HXB HR1w
    have y0 := cl3 HRB.out 0 (by simp)
    simp only [List.getElem_toArray, List.getElem_cons_zero] at y0
    cases q with
    | false =>
      gi_wp2
      exact ⟨keepsO_below HB3.out, rfl, pre, _, r, r', rfl, HI3.out, HAF.out.1, HAF.out.2, .inl HQ.out.symm⟩
    | true =>
      by_cases h16 : (pre.length : Int) = 16
      · have HE : Hid (pre.length = 16) := by show _ = _; omega
        gi_wp2
        exact ⟨keepsO_below HB3.out, rfl, pre, _, r, r', rfl, HI3.out, HAF.out.1, HAF.out.2, .inr HE.out⟩
      · have HE : Hid (pre.length ≤ 15) := by show _ ≤ _; omega
        have x0 := cl3 HXB3.out 0 (by simp)
        have x1 := cl3 HXB3.out 1 (by simp)
        have x2 := cl3 HXB3.out 2 (by simp)
        simp only [List.getElem_toArray, List.getElem_cons_succ, List.getElem_cons_zero] at x0 x1 x2
        obtain ⟨cs, hXC⟩ := HXC.out
        have HIW := HI.out
        have HSt : Hid (∀ (w4 : World) (vq : Value), w4.ownsRow w.heap.size 60 3 vq (pre.length + 1) (pre.flatMap c3 ++ c3 ⟨.slice ao xD.length co, xD, xt, xx⟩) → (w3.alloc (.cells #[.slice ao xD.length co, .int .i64 xt, .int .i64 xx] 60)).grownBy w4 (Value.slice av pre.length cv).ownBlock → (vq.ownBlock = (Value.slice av pre.length cv).ownBlock ∨ vq.ownBlock = some (w3.alloc (.cells #[.slice ao xD.length co, .int .i64 xt, .int .i64 xx] 60)).heap.size) → postW w.heap.size X (IGu w) (IxGu w bs) (pre ++ [(⟨.slice ao xD.length co, xD, xt, xx⟩ : Fa)]) W .normal { tmps := #[], defers := [] } (w4.setCell ⟨w.heap.size + 1, 0, none⟩ vq)) := fun w4 vq h1 h2 h3 =>
          igu_step _ HI3.out HRB.out (row_kcx HR2w.out (KcX.of_kc (X := X) (Kc.of_below HB3.out HIW.b.size)) HR3w.out) HR3w.out HB3.out HXlt.out hXC HIW.b HSO.out HFB.out HQ.out.symm HE.out h1 h2 h3
        have HRw3 : Hid ((w3.alloc (.cells #[.slice ao xD.length co, .int .i64 xt, .int .i64 xx] 60)).ownsRow w.heap.size 60 3 (.slice av pre.length cv) pre.length (pre.flatMap c3)) := World.ownsRow.alloc (row_kcx HR2w.out (KcX.of_kc (X := X) (Kc.of_below HB3.out HIW.b.size)) HR3w.out) _
        have HR4 : Hid (∀ (w4 : World), (w3.alloc (.cells #[.slice ao xD.length co, .int .i64 xt, .int .i64 xx] 60)).grownBy w4 (Value.slice av pre.length cv).ownBlock → w4.heap[w.heap.size + 1]? = some (.cells #[.slice av pre.length cv, .int .i64 (-1)] 37)) := fun w4 hg =>
          (hg.block _ (by have := (Array.getElem?_eq_some_iff.1 HRB.out).1; simp; omega) (row_ne (row_kcx HR2w.out (KcX.of_kc (X := X) (Kc.of_below HB3.out HIW.b.size)) HR3w.out) HRB.out (by decide))).trans ((Below.heap_alloc _ _ _ (Array.getElem?_eq_some_iff.1 HRB.out).1).trans HRB.out)
        have hbs3 : w.heap.size ≤ w3.heap.size := Nat.le_trans HIW.b.size HB3.out.size
        have hE15 := HE.out
        clear HIW hXC
        gi_wp2_with (gi_at_builtin; refine stopIn ?_)
        refine Stop.of ?_
        refine (wpListIn_append_own_at _ rfl _ _ 35 rfl w.heap.size 60 i0 _ 3 40 Tryz.underlying35 hi hz0 hz1 hz2 rfl (by decide) _ _ _ rfl HRw3.out ⟨w3.heap.size, 0, none⟩ 1 1 [.slice ao xD.length co, .int .i64 xt, .int .i64 xx] rfl rfl news3 (by simp [Value.oneCell']) (by unfold maxLen; omega) (by omega) (by simp; omega) ?_)
        intro vq w4 hown' hgrow _ hwh
        have hp4 := HSt.out w4 vq hown' hgrow hwh
        obtain ⟨g', cap', rfl⟩ := ownsRow_succ hown'
        have hr4 := HR4.out w4 hgrow
        have q0 := cl3 hr4 0 (by simp)
        have q1 := fz3 hr4 0
        simp only [List.getElem_toArray, List.getElem_cons_zero] at q0
        gi_wp2
        exact hp4
  case done =>
    rintro D X ys W hD hS hI hK
    obtain ⟨⟨fv, r1, r2, r3⟩, hz, hs, hb, hm, hle, hxx⟩ := hI
    have HGo : Hid (gaF 16 bs = ys.map Fa.p) := ga_done hS hm hle
    obtain ⟨av, cv, hvf⟩ := row_formS r2
    subst hvf
    have k0 := cl3 hz 0 (by simp)
    have k1 := cl3 hz 1 (by simp)
    have j0 := cl3 r1 0 (by simp)
    have j1 := cl3 r1 1 (by simp)
    have f0 := fz3 hz 0
    have f1 := fz3 hz 1
    simp only [List.getElem_toArray, List.getElem_cons_succ, List.getElem_cons_zero] at k0 k1 j0 j1
    go_wp2_with fail
    rw [Exit.noGoto_ret]
    have hDl : w.heap.size + 1 < D := by simp at hD; omega
    have hK5 : ((W.setCell ⟨w.heap.size, 0, none⟩ (.slice av ys.length cv)).setCell ⟨w.heap.size, 1, none⟩ (.int .i64 (-1))).heap[D]? = some (.deferred (some [])) := (Go.heap_setCell_other _ _ _ _ (by show D ≠ w.heap.size; omega)).trans ((Go.heap_setCell_other _ _ _ _ (by show D ≠ w.heap.size; omega)).trans hK)
    have HZ5 := set2b hz rfl (.slice av ys.length cv) (.int .i64 (-1))
    have hpk := Kc.put (n := w.heap.size) (.deferred none) hK5 rfl (by omega)
    have ho5 : Onl (fun k => k = w.heap.size) W ((W.setCell ⟨w.heap.size, 0, none⟩ (.slice av ys.length cv)).setCell ⟨w.heap.size, 1, none⟩ (.int .i64 (-1))) := (Onl.set (O := fun k => k = w.heap.size) (a := ⟨w.heap.size, 0, none⟩) rfl _).then (Onl.set (O := fun k => k = w.heap.size) (a := ⟨w.heap.size, 1, none⟩) rfl _)
    have kx : KcX w.heap.size w.heap.size W _ := (KcX.of_onl ho5 (Nat.le_refl _) hb.size).trans (KcX.of_kc hpk)
    refine ⟨by simp, .inl ⟨_, _, rfl, run_takeDeferred hK5, ?_⟩⟩
    refine ⟨_, results_c1 rfl _ _ w.heap.size _ rfl (run_loadVar_row _ w.heap.size _ _ _ (0, 0) _ (hpk.c _ _ _ _ HZ5) Tryz.underlying37 rfl (by kernel_rfl)), ?_⟩
    exact ⟨hb.trans kx.b, .slice av ys.length cv, ys, by rw [HGu.out], fun B hB => igu_reads (row_new (row_kcx r2 kx (fun k hk e => row_ne r2 hz (by decide) (by rw [← e]; exact hk.symm))) hB) (fun x hx => ⟨SOwn.reads ⟨row_new (row_kcx (hs x hx).1.1 kx (sown_ne (hs x hx).1 hz (by decide))) hB, (hs x hx).1.2⟩, (hs x hx).2.1⟩), by rw [HGu.out]; exact HGo.out.symm⟩
  case left =>
    rintro D X xs c W hD _ ⟨rfl, ys, x, r, r', rfl, hI, haf, hrd, hor⟩ hK
    obtain ⟨⟨fv, r1, r2, r3⟩, hz, hs, hb, hm, hle, hxx⟩ := hI
    have HGo : Hid (gaF 16 bs = ys.map Fa.p) := ga_left haf hrd hor hm hle
    clear haf hrd hor
    gi_wp2
    obtain ⟨av, cv, hvf⟩ := row_formS r2
    subst hvf
    have k0 := cl3 hz 0 (by simp)
    have k1 := cl3 hz 1 (by simp)
    have j0 := cl3 r1 0 (by simp)
    have j1 := cl3 r1 1 (by simp)
    have f0 := fz3 hz 0
    have f1 := fz3 hz 1
    simp only [List.getElem_toArray, List.getElem_cons_succ, List.getElem_cons_zero] at k0 k1 j0 j1
    go_wp2_with fail
    rw [Exit.noGoto_ret]
    have hDl : w.heap.size + 1 < D := by simp at hD; omega
    have hK5 : ((W.setCell ⟨w.heap.size, 0, none⟩ (.slice av ys.length cv)).setCell ⟨w.heap.size, 1, none⟩ (.int .i64 (-1))).heap[D]? = some (.deferred (some [])) := (Go.heap_setCell_other _ _ _ _ (by show D ≠ w.heap.size; omega)).trans ((Go.heap_setCell_other _ _ _ _ (by show D ≠ w.heap.size; omega)).trans hK)
    have HZ5 := set2b hz rfl (.slice av ys.length cv) (.int .i64 (-1))
    have hpk := Kc.put (n := w.heap.size) (.deferred none) hK5 rfl (by omega)
    have ho5 : Onl (fun k => k = w.heap.size) W ((W.setCell ⟨w.heap.size, 0, none⟩ (.slice av ys.length cv)).setCell ⟨w.heap.size, 1, none⟩ (.int .i64 (-1))) := (Onl.set (O := fun k => k = w.heap.size) (a := ⟨w.heap.size, 0, none⟩) rfl _).then (Onl.set (O := fun k => k = w.heap.size) (a := ⟨w.heap.size, 1, none⟩) rfl _)
    have kx : KcX w.heap.size w.heap.size W _ := (KcX.of_onl ho5 (Nat.le_refl _) hb.size).trans (KcX.of_kc hpk)
    refine ⟨by simp, .inl ⟨_, _, rfl, run_takeDeferred hK5, ?_⟩⟩
    refine ⟨_, results_c1 rfl _ _ w.heap.size _ rfl (run_loadVar_row _ w.heap.size _ _ _ (0, 0) _ (hpk.c _ _ _ _ HZ5) Tryz.underlying37 rfl (by kernel_rfl)), ?_⟩
    exact ⟨hb.trans kx.b, .slice av ys.length cv, ys, by rw [HGu.out], fun B hB => igu_reads (row_new (row_kcx r2 kx (fun k hk e => row_ne r2 hz (by decide) (by rw [← e]; exact hk.symm))) hB) (fun x hx => ⟨SOwn.reads ⟨row_new (row_kcx (hs x hx).1.1 kx (sown_ne (hs x hx).1 hz (by decide))) hB, (hs x hx).1.2⟩, (hs x hx).2.1⟩), by rw [HGu.out]; exact HGo.out.symm⟩
set_option maxRecDepth 100000 in
set_option maxHeartbeats 4000000 in
theorem guessed_any (v : Value) (b : List UInt8) (hbl : b.length ≤ 5000) (w : World) (hR : Reads w v b) : Calls Tryz.prog 50 #[v] w (GuPost w b) := by
  obtain ⟨a, cap, rfl, _⟩ := hR.form
  have HR : Hid (Reads w (.slice a b.length cap) b) := hR
  clear hR
  by_cases h0 : b.length = 0
  · have hb0 : b = [] := List.length_eq_zero_iff.1 h0
    subst hb0
    have HP : Hid (∀ W, Below w.heap.size w W → GuPost w [] (.returned (.agg #[.slice none 0 0, .int .i64 (-1)])) W) := fun W hW => ⟨hW, .slice none 0 0, [], rfl, fun B _ => freads_nil B, rfl⟩
    simp only [List.length_nil]
    go_enter Tryz.func50, Tryz.ntmps50
    go_wp2_with fail
    go_step3
    go_wp2_with fail
    rw [Exit.noGoto_ret]
    refine bodyPost_ret (v := .agg #[.slice none 0 0, .int .i64 (-1)]) (by simp [results, Tryz.results50, go_sem]) rfl (HP.out _ (((Below.refl _ _).alloc (Nat.le_refl _) _).alloc (by simp) _))
  · obtain ⟨c, b', rfl⟩ : ∃ c b', b = c :: b' := by
      cases b with
      | nil => exact absurd rfl h0
      | cons c b' => exact ⟨c, b', rfl⟩
    obtain ⟨bb, off, rfl, hbw, hc0⟩ := HR.out.at 0 (by simp)
    simp only [Nat.add_zero, List.getElem_cons_zero] at hc0
    obtain ⟨a1, c1, hsl1, hrd1⟩ := sl_from HR.out (c := 1) (by simp)
    have HR1 : Hid (Reads w (.slice a1 ((c :: b').length - 1) c1) b') := hrd1
    obtain ⟨len, HLen⟩ := hid_ex (c :: b').length
    have hlen : len = b'.length + 1 := by rw [HLen.out]; rfl
    have hlz : ¬ (len : Int) = 0 := by omega
    have HLn : Hid (len = b'.length + 1) := hlen
    clear hlen
    rw [← HLen.out] at hsl1 HR HR1 ⊢
    have hsl2 : ∀ w', (Instr.slice 61 (.slice (some ⟨bb, off, none⟩) len cap) (some (.int .i64 1)) none none).run Tryz.prog w' = .ok (.slice a1 (len - 1) c1) w' := hsl1
    have HBw : Hid (bb < w.heap.size) := hbw
    clear h0 hrd1 hsl1 hbw HLen
    by_cases h2 : c = 2
    · subst h2
      obtain ⟨A, HA⟩ := hid_ex (rnF b').1
      have HP : Hid (∀ W, Below w.heap.size w W → GuPost w (2 :: b') (.returned (.agg #[.slice none 0 0, .int .i64 A])) W) := fun W hW => ⟨hW, .slice none 0 0, [], by rw [HA.out]; rfl, fun B _ => freads_nil B, rfl⟩
      have HN : Hid (∀ W, Below w.heap.size w W → Calls Tryz.prog 65 #[.slice a1 (len - 1) c1] W fun e w' => e = .returned (.tuple #[.int .i64 A, .int .i64 (rnF b').2.1, .int .i64 (rnF b').2.2]) ∧ Below W.heap.size W w') := by
        intro W hW
        rw [HA.out]
        exact readNumber_any _ b' W (HR1.out.below hW)
      have hc1 : ((w.alloc (.cells #[.slice none 0 0, .int .i64 0] 37)).alloc (.cells #[.slice none 0 0, .int .i64 (-1)] 37)).cell? ⟨bb, off, none⟩ = some (.int .u8 2) := ((((Below.refl w.heap.size w).alloc (Nat.le_refl _) _).alloc (by simp) _).cell (p := ⟨bb, off, none⟩) HBw.out).trans hc0
      clear HA hc0
      go_enter Tryz.func50, Tryz.ntmps50
      go_wp2_with fail
      go_step3
      go_wp2_with fail
      refine (HN.out _ (((Below.refl _ _).alloc (Nat.le_refl _) _).alloc (by simp) _)).mono ?_
      rintro e w1 ⟨rfl, hb1⟩
      have HK0 : Hid (w1.heap[w.heap.size]? = some (.cells #[.slice none 0 0, .int .i64 0] 37)) := (hb1.block _ (by simp; omega)).trans ((Below.heap_alloc _ _ _ (by simp)).trans (World.alloc_heap_new _ _))
      have HK1 : Hid (w1.heap[w.heap.size + 1]? = some (.cells #[.slice none 0 0, .int .i64 (-1)] 37)) := by
        refine (hb1.block _ (by simp)).trans ?_
        have := World.alloc_heap_new (w.alloc (.cells #[.slice none 0 0, .int .i64 0] 37)) (.cells #[.slice none 0 0, .int .i64 (-1)] 37)
        rwa [World.size_alloc] at this
      have HB1 : Hid (Below w.heap.size w w1) := (((Below.refl _ w).alloc (Nat.le_refl _) _).alloc (by simp) _).trans (hb1.mono (by simp; omega))
      clear hb1 hc1 HN
      have k0 := cl3 HK0.out 0 (by simp)
      have k1 := cl3 HK0.out 1 (by simp)
      have j0 := cl3 HK1.out 0 (by simp)
      have j1 := cl3 HK1.out 1 (by simp)
      have f0 := fz3 HK0.out 0
      have f1 := fz3 HK0.out 1
      have g0 := fz3 HK1.out 0
      have g1 := fz3 HK1.out 1
      simp only [List.getElem_toArray, List.getElem_cons_succ, List.getElem_cons_zero] at k0 k1 j0 j1
      go_wp2_with fail
      rw [Exit.noGoto_ret]
      have HK2 : (w1.setCell ⟨w.heap.size + 1, 1, none⟩ (.int .i64 A)).heap[w.heap.size]? = some (.cells #[.slice none 0 0, .int .i64 0] 37) := (Go.heap_setCell_other _ _ _ _ (by simp)).trans HK0.out
      have HK3 := set2b HK2 rfl (.slice none 0 0) (.int .i64 A)
      exact bodyPost_ret (results_c1 rfl _ _ w.heap.size _ rfl (run_loadVar_row _ w.heap.size _ _ _ (0, 0) _ HK3 Tryz.underlying37 rfl (by kernel_rfl))) rfl (HP.out _ (((HB1.out.setCell (p := ⟨w.heap.size + 1, 1, none⟩) (Nat.le_succ _) _).setCell (p := ⟨w.heap.size, 0, none⟩) (Nat.le_refl _) _).setCell (p := ⟨w.heap.size, 1, none⟩) (Nat.le_refl _) _))
    · exact guessed_rows c b' h2 len HLn.out (by have := HLn.out; simp at hbl; omega) bb off cap w HR.out HBw.out hc0
end Go.Proofs.YtegcomopcoapjaaGreatDoor
