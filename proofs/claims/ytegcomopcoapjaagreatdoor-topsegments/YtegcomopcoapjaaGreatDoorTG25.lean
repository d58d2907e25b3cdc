/- WX7 WX8 TS1 TS0 TS2, joined. -/
import Derived.Test.YtegcomopcoapjaaGreatDoorTG3
import Derived.Test.YtegcomopcoapjaaGreatDoorTG5
import Derived.Test.YtegcomopcoapjaaGreatDoorTG24
/- A file system that has one segment: pure. -/
namespace Go.Proofs.YtegcomopcoapjaaGreatDoor
open Go.RowKit Go.Shelf

def SgS (room : Int) (nm bs : List UInt8) (sy : Nat) : SfS := ⟨room, [(nm, 0)], [(nm, 0)], [], 0, 0, [(bs, sy)]⟩
theorem nm_name {n : Int} (h : isNo n = true) : sfName (nmF seg n) = true := by
  obtain ⟨h1, h2⟩ := isNo_iff.1 h
  have hl := nm_len (n := n)
  have hd := dec_digit n.toNat
  rw [nmF_yes h1 h2] at hl ⊢
  unfold sfName
  rw [Bool.and_eq_true, Bool.and_eq_true]
  refine ⟨⟨decide_eq_true (by rw [List.length_append]; have : seg.length = 4 := rfl; omega), decide_eq_true (by omega)⟩, ?_⟩
  rw [List.all_append, Bool.and_eq_true]
  refine ⟨by decide, ?_⟩
  rw [List.all_eq_true]
  intro c hc
  obtain ⟨g1, g2⟩ := hd c hc
  unfold sfOkC
  rw [decide_eq_true g1, decide_eq_true g2]
  simp
theorem sg_start {n : Int} (h : isNo n = true) (room : Int) : stF (sfZ room) n = (0, SgS room (nmF seg n) [] 0) := by
  have hn := nm_name h
  unfold stF
  rw [if_neg (by rw [h]; simp)]
  generalize nmF seg n = nm at *
  have hc : sfCreate (sfZ room) nm = (0, ⟨room, [(nm, 0)], [], [⟨[], nm, some 0⟩], 0, 0, [([], 0)]⟩) := by
    unfold sfCreate
    rw [if_neg (by rw [hn]; simp), if_neg (by simp [sfZ, sfLook]), if_neg (by simp [sfZ])]
    rfl
  rw [hc, if_pos rfl]
  rfl
theorem sg_start_no {n : Int} (h : isNo n = false) (s : SfS) : stF s n = (1, s) := by unfold stF; rw [if_pos h]
theorem sg_look (room : Int) (nm bs : List UInt8) (sy : Nat) : sfLook nm (SgS room nm bs sy).dir = some 0 := by simp [SgS, sfLook]
theorem sg_again {n : Int} (h : isNo n = true) (room : Int) (bs : List UInt8) (sy : Nat) : stF (SgS room (nmF seg n) bs sy) n = (80, SgS room (nmF seg n) bs sy) := by
  have hn := nm_name h
  unfold stF
  rw [if_neg (by rw [h]; simp)]
  generalize nmF seg n = nm at *
  have hc : sfCreate (SgS room nm bs sy) nm = (80, SgS room nm bs sy) := by
    unfold sfCreate
    rw [if_neg (by rw [hn]; simp), if_pos (by rw [sg_look]; rfl)]
  rw [hc, if_neg (by simp)]
theorem sg_read (room : Int) (nm bs : List UInt8) (sy : Nat) : sfRead (SgS room nm bs sy) nm = bs := by
  unfold sfRead; rw [sg_look]; rfl
theorem sg_fe (room : Int) (nm bs : List UInt8) (sy : Nat) : sfFe (sfLook nm (SgS room nm bs sy).dir) = 0 := by rw [sg_look]; rfl
theorem sg_append (room : Int) (nm bs : List UInt8) (sy : Nat) (b : List UInt8) (hl : bs.length + b.length ≤ 1048576) :
    sfAppend (SgS room nm bs sy) nm b = if room < ((bs.length + b.length : Nat) : Int) then (81, SgS room nm bs sy) else (0, SgS room nm (bs ++ b) sy) := by
  unfold sfAppend
  rw [sg_look]
  simp only
  have e1 : ((SgS room nm bs sy).fl 0) = (bs, sy) := rfl
  have e2 : sfUsed (SgS room nm bs sy) = bs.length := by simp [sfUsed, SgS, SfS.fl]
  have e3 : (SgS room nm bs sy).room = room := rfl
  rw [e1, e2, e3, if_neg (by simp only; omega)]
  rfl
theorem sg_sync (room : Int) (nm bs : List UInt8) (sy : Nat) : sfSync (SgS room nm bs sy) nm = (0, SgS room nm bs bs.length) := by
  unfold sfSync
  rw [sg_look]
  rfl
/-- How many bytes a crash leaves. -/
def sgC (bs : List UInt8) (sy : Nat) (ks : List Int) : Nat := sy + min (max (ks.headD 0) 0).toNat (bs.length - sy)
theorem sg_crash (room : Int) (nm bs : List UInt8) (sy : Nat) (n : Int) (ks : List Int) : sfCrash (SgS room nm bs sy) n ks = SgS room nm (bs.take (sgC bs sy ks)) (sgC bs sy ks) := by
  unfold sfCrash sfSettle
  simp only [SgS, List.take_nil, List.foldl_nil]
  rfl
theorem lg_no {s : SfS} {nm : List UInt8} {r : Rc} (h : rightR r.p r.m = false) : lgAdd s nm r = (90, s) := by unfold lgAdd; rw [if_neg (by rw [h]; simp)]
theorem lg_yes {s : SfS} {nm : List UInt8} {r : Rc} (h : rightR r.p r.m = true) : lgAdd s nm r = sfAppend s nm (frm (wrR r.p r.m)) := by unfold lgAdd; rw [if_pos h]
/-- Bytes that are frames of short data. -/
structure Frs (bs : List UInt8) (ds : List (List UInt8)) : Prop where
  e : bs = cat ds
  l : ∀ d ∈ ds, d.length ≤ 2700
theorem frs_nil : Frs [] [] := ⟨rfl, fun d hd => by cases hd⟩
theorem Frs.snoc {bs : List UInt8} {ds : List (List UInt8)} (h : Frs bs ds) {d : List UInt8} (hd : d.length ≤ 2700) : Frs (bs ++ frm d) (ds ++ [d]) :=
  ⟨by rw [h.e, cat_append]; simp [cat], fun x hx => by
    rcases List.mem_append.1 hx with hx | hx
    · exact h.l x hx
    · simp at hx; subst hx; exact hd⟩
theorem cat_flat : ∀ ds : List (List UInt8), cat ds = ds.flatMap frm
  | [] => rfl
  | d :: ds => by rw [cat, List.flatMap_cons, cat_flat ds]
theorem Frs.bd {bs : List UInt8} {ds : List (List UInt8)} (h : Frs bs ds) {j : List UInt8} (hj : j.length ≤ 500) : ∀ d ∈ fmS (bs ++ j), d.length ≤ 5000 := by
  intro d hd
  unfold fmS at hd
  obtain ⟨x, hx, rfl⟩ := List.mem_map.1 hd
  rw [h.e, cat_flat] at hx
  have := alF_bd _ ds j 2700 (by decide) h.l (by omega) x hx
  omega
end Go.Proofs.YtegcomopcoapjaaGreatDoor

/- WalWhole: what a cut row of frames tells; what stands in a round. -/
namespace Go.Proofs.YtegcomopcoapjaaGreatDoor
open Go.RowKit Go.Shelf

def wrs (L : List Rc) : List (List UInt8) := L.map fun r => wrR r.p r.m
def rgt (L : List Rc) : Prop := ∀ x ∈ L, rightR x.p x.m = true
theorem wrs_snoc (L : List Rc) (x : Rc) : cat (wrs (L ++ [x])) = cat (wrs L) ++ frm (wrR x.p x.m) := by
  unfold wrs
  rw [List.map_append, cat_append]
  simp [cat]
theorem rgt_snoc {L : List Rc} {x : Rc} (h : rgt L) (hx : rightR x.p x.m = true) : rgt (L ++ [x]) := fun y hy => by
  rcases List.mem_append.1 hy with hy | hy
  · exact h y hy
  · simp at hy; subst hy; exact hx
theorem wrs_len {L : List Rc} (h : rgt L) : ∀ d ∈ wrs L, d.length ≤ 2700 := by
  intro d hd
  obtain ⟨x, hx, rfl⟩ := List.mem_map.1 hd
  exact wrR_len (h x hx)
theorem cat_len : ∀ (L : List Rc), rgt L → (cat (wrs L)).length ≤ 2708 * L.length
  | [], _ => by simp [wrs, cat]
  | x :: L, h => by
    have ih := cat_len L fun y hy => h y (List.mem_cons_of_mem _ hy)
    have := wrR_len (h x (List.mem_cons_self ..))
    show (frm (wrR x.p x.m) ++ cat (wrs L)).length ≤ _
    rw [List.length_append, frm_len, List.length_cons]
    omega
theorem cut_ex (ds : List (List UInt8)) (c : Nat) : ∀ (m a : Nat), ds.length - a = m → a ≤ ds.length → en ds a ≤ c → ∃ j, a ≤ j ∧ j ≤ ds.length ∧ en ds j ≤ c ∧ (j = ds.length ∨ c < en ds (j + 1))
  | 0, a, hm, ha, hc => ⟨a, Nat.le_refl _, ha, hc, .inl (by omega)⟩
  | m + 1, a, hm, ha, hc => by
    by_cases h : en ds (a + 1) ≤ c
    · obtain ⟨j, h1, h2, h3, h4⟩ := cut_ex ds c m (a + 1) (by omega) (by omega) h
      exact ⟨j, by omega, h2, h3, h4⟩
    · exact ⟨a, Nat.le_refl _, ha, hc, .inr (by omega)⟩
theorem rcF_wrs : ∀ (L : List Rc), rgt L → (∀ x ∈ L, ∀ f ∈ x.p, FcB f) → rcF (wrs L) = L.map Rc.q
  | [], _, _ => rfl
  | x :: L, h, hb => by
    show rcF (wrR x.p x.m :: wrs L) = _
    rw [rcF_some (rdR_wr (h x (List.mem_cons_self ..)) (hb x (List.mem_cons_self ..))), rcF_wrs L (fun y hy => h y (List.mem_cons_of_mem _ hy)) fun y hy => hb y (List.mem_cons_of_mem _ hy)]
    rfl
theorem whole_cut (A B : List Rc) (hr : rgt (A ++ B)) (hb : ∀ x ∈ A ++ B, ∀ f ∈ x.p, FcB f) (c : Nat) (hc : (cat (wrs A)).length ≤ c) :
    ∃ j, A.length ≤ j ∧ j ≤ (A ++ B).length ∧ fmS ((cat (wrs (A ++ B))).take c) = (wrs (A ++ B)).take j ∧ rcF (fmS ((cat (wrs (A ++ B))).take c)) = ((A ++ B).take j).map Rc.q := by
  have hl : (wrs (A ++ B)).length = (A ++ B).length := by simp [wrs]
  have ha : A.length ≤ (wrs (A ++ B)).length := by rw [hl]; simp
  have he : en (wrs (A ++ B)) A.length ≤ c := by
    unfold en
    have : (wrs (A ++ B)).take A.length = wrs A := by unfold wrs; rw [← List.map_take, List.take_left]
    rw [this]; exact hc
  obtain ⟨j, h1, h2, h3, h4⟩ := cut_ex _ c _ A.length rfl ha he
  have hge := en_ge (wrs (A ++ B)) j h2
  have hle : en (wrs (A ++ B)) j ≤ (cat (wrs (A ++ B))).length := by
    unfold en
    have := cat_append ((wrs (A ++ B)).take j) ((wrs (A ++ B)).drop j)
    rw [List.take_append_drop] at this
    rw [this, List.length_append]; omega
  have hal := al_cut j (wrs (A ++ B)) c (((cat (wrs (A ++ B))).take c).length + 1) h2 (fun l hx => by have := wrs_len hr l hx; omega) h3 h4 (by rw [List.length_take]; omega)
  have hf : fmS ((cat (wrs (A ++ B))).take c) = (wrs (A ++ B)).take j := by
    unfold fmS
    rw [hal, List.map_map]
    have : ((fun x : List UInt8 × Nat => x.1) ∘ pr) = id := rfl
    rw [this, List.map_id]
  refine ⟨j, h1, by omega, hf, ?_⟩
  rw [hf]
  have : (wrs (A ++ B)).take j = wrs ((A ++ B).take j) := by unfold wrs; rw [List.map_take]
  rw [this]
  exact rcF_wrs _ (fun y hy => hr y (List.mem_of_mem_take hy)) fun y hy => hb y (List.mem_of_mem_take hy)
theorem rsl_upto (a : Option Addr) (n cap N : Nat) (h : N ≤ cap) (w : World) : (Instr.slice 33 (.slice a n cap) none (some (.int .i64 (N : Int))) none).run Tryz.prog w = .ok (.slice a N cap) w := by
  have ha : (Option.map (fun x : Addr => x.add 0) a) = a := by cases a <;> simp [Addr.add]
  simp [Instr.slice, run_underlying Tryz.underlying33, Instr.sliceBounds, Instr.sliceBound, asIntOf, h, Result.andThen, ha]
theorem RsR.take {w : World} {a : Option Addr} {cap : Nat} {L : List Rc} (h : RsR w (.slice a L.length cap) L) {N : Nat} (hN : N ≤ L.length) : RsR w (.slice a N cap) (L.take N) := by
  have hl : (L.take N).length = N := by rw [List.length_take]; omega
  obtain ⟨a', cap', e, h1, h2⟩ := h
  cases e
  refine ⟨a, cap, by rw [hl], by omega, ?_⟩
  rcases h2 with rfl | ⟨b, off, h3, h4, h5⟩
  · exact .inl (by simp)
  · refine .inr ⟨b, off, h3, h4, fun j hj => ?_⟩
    rw [hl] at hj
    have := h5 j (by omega)
    rw [List.getElem_take]
    exact this
/-- What stands: fb is the file's bytes, C what o reads. -/
structure RwI (W : World) (room : Int) (p : Value) (g : Nat) (nm : List UInt8) (sy : Nat) (o : Value) (fb : List UInt8) (C : List Rc) (O : Nat → Prop) (wr : World) : Prop where
  fs : Fs wr O p (SgS room nm fb sy)
  lo : ∀ k, O k → W.heap.size ≤ k
  lg : LgAt wr g p nm
  go : ¬ O g
  ow : GOwn wr 37 2 o C.length (C.flatMap c2r)
  ok : ∀ k, o.ownBlock = some k → ¬ O k ∧ W.heap.size ≤ k ∧ k < wr.heap.size ∧ k ≠ g
  be : Below W.heap.size W wr
theorem RwI.below {W : World} {room : Int} {p : Value} {g : Nat} {nm : List UInt8} {sy : Nat} {o : Value} {fb : List UInt8} {C : List Rc} {O : Nat → Prop} {wr w' : World} (h : RwI W room p g nm sy o fb C O wr) (hb : Below wr.heap.size wr w') : RwI W room p g nm sy o fb C O w' :=
  ⟨h.fs.below hb, h.lo, h.lg.onl (O := O) (onl_of_below hb) h.go, h.go, h.ow.keep fun k hk => hb.block k (h.ok k hk).2.2.1, fun k hk => ⟨(h.ok k hk).1, (h.ok k hk).2.1, Nat.lt_of_lt_of_le (h.ok k hk).2.2.1 hb.size, (h.ok k hk).2.2.2⟩, h.be.trans (hb.mono h.be.size)⟩
theorem RwI.onl {W : World} {room : Int} {p : Value} {g : Nat} {nm : List UInt8} {sy sy' : Nat} {o : Value} {fb fb' : List UInt8} {C : List Rc} {O O' : Nat → Prop} {wr w' : World} (h : RwI W room p g nm sy o fb C O wr) (hf : Fs w' O' p (SgS room nm fb' sy')) (hO : ∀ k, O' k → Grw O wr w' k) (ho : Onl O wr w') : RwI W room p g nm sy' o fb' C O' w' := by
  have hgl : g < wr.heap.size := (Array.getElem?_eq_some_iff.1 h.lg).1
  have hbs := h.be.size
  refine ⟨hf, fun k hk => ?_, h.lg.onl ho h.go, fun hk => ?_, h.ow.keep fun k hk => ho.block k (h.ok k hk).2.2.1 (h.ok k hk).1, fun k hk => ⟨fun hq => ?_, (h.ok k hk).2.1, Nat.lt_of_lt_of_le (h.ok k hk).2.2.1 ho.size, (h.ok k hk).2.2.2⟩, h.be.trans (ho.below hbs h.lo)⟩
  · rcases hO k hk with q | q
    · exact h.lo k q
    · omega
  · rcases hO g hk with q | q
    · exact h.go q
    · omega
  · rcases hO k hq with q | q
    · exact (h.ok k hk).1 q
    · have := (h.ok k hk).2.2.1; omega
theorem RwI.app {W : World} {room : Int} {p : Value} {g : Nat} {nm : List UInt8} {sy : Nat} {o : Value} {fb : List UInt8} {C : List Rc} {O : Nat → Prop} {wr : World} (h : RwI W room p g nm sy o fb C O wr) (ty : TypeId) (x : Rc) (hx : ∃ a n c, x.v = .slice a n c) (hl : C.length < 1099511627776) :
    ∃ v' w', (Builtin.append_ #[33, 33] ty #[o, .slice (some ⟨wr.heap.size, 0, none⟩) 1 1]).run Tryz.prog (wr.alloc (.cells #[x.v, .int .i64 x.m] 37)) = .ok v' w' ∧ RwI W room p g nm sy v' fb (C ++ [x]) O w' := by
  obtain ⟨v', w', h1, h2, h3, h4⟩ := run_appRc rtyW ty o C x hx h.ow (fun k hk => (h.ok k hk).2.2.1) hl
  have hgl : g < wr.heap.size := (Array.getElem?_eq_some_iff.1 h.lg).1
  have hbs := h.be.size
  have hsz := h3.size
  simp only [World.size_alloc] at hsz
  have keep : ∀ k, k < wr.heap.size → some k ≠ o.ownBlock → w'.heap[k]? = wr.heap[k]? := fun k hk hq => (h3.block k (by simp; omega) hq).trans (Below.heap_alloc _ _ _ hk)
  refine ⟨v', w', h1, h.fs.keep (fun k hk => keep k (h.fs.lt k hk) (fun e => (h.ok k e.symm).1 hk)) (by omega), h.lo, (keep g hgl (fun e => (h.ok g e.symm).2.2.2 rfl)).trans h.lg, h.go, h2, fun k hk => ?_, (h.be.alloc hbs _).grown h3 (by simp; omega) (fun k hk => (h.ok k hk).2.1)⟩
  rcases h4 k hk with q | q
  · have := h.ok k q; exact ⟨this.1, this.2.1, by omega, this.2.2.2⟩
  · exact ⟨fun hO => by have := h.fs.lt k hO; omega, by omega, q.2, by omega⟩
end Go.Proofs.YtegcomopcoapjaaGreatDoor

/- TopSegments: segments one behind the other in a file system: pure. -/
namespace Go.Proofs.YtegcomopcoapjaaGreatDoor
open Go.RowKit Go.Shelf

theorem look_cons (s : List UInt8) (y : List UInt8 × Nat) (r : List (List UInt8 × Nat)) : sfLook s (y :: r) = if y.1 = s then some y.2 else sfLook s r := by
  unfold sfLook
  rw [List.find?_cons]
  by_cases e : y.1 = s
  · rw [if_pos e, show (y.1 == s) = true by simpa using e]; rfl
  · rw [if_neg e, show (y.1 == s) = false by simpa using e]
theorem look_del (s t : List UInt8) : ∀ l : List (List UInt8 × Nat), sfLook s (sfDel t l) = if s = t then none else sfLook s l
  | [] => by simp [sfDel, sfLook]
  | y :: r => by
    have ih := look_del s t r
    by_cases e : y.1 = t
    · have : sfDel t (y :: r) = sfDel t r := by unfold sfDel; rw [List.filter_cons, show (y.1 == t) = true by simpa using e]; rfl
      rw [this, ih, look_cons]
      split
      · rfl
      · rename_i h
        rw [if_neg (fun z => h (by rw [← z, e]))]
    · have : sfDel t (y :: r) = y :: sfDel t r := by unfold sfDel; rw [List.filter_cons, show (y.1 == t) = false by simpa using e]; rfl
      rw [this, look_cons, look_cons, ih]
      by_cases e2 : y.1 = s
      · rw [if_pos e2, if_pos e2]
        split
        · rename_i h; exact absurd (e2.trans h) e
        · rfl
      · rw [if_neg e2, if_neg e2]
theorem look_ins (s : List UInt8) (x : List UInt8 × Nat) : ∀ {l : List (List UInt8 × Nat)}, (∀ p ∈ l, p.1 ≠ x.1) → sfLook s (sfIns x l) = if x.1 = s then some x.2 else sfLook s l
  | [], _ => by rw [sfIns, look_cons]
  | y :: r, h => by
    have ih := look_ins s x (l := r) (fun p hp => h p (by simp [hp]))
    unfold sfIns
    split
    · rw [look_cons]
    · rw [look_cons, look_cons, ih]
      by_cases e : y.1 = s
      · rw [if_pos e, if_pos e, if_neg (fun z => h y (by simp) (e.trans z.symm))]
      · rw [if_neg e, if_neg e]
theorem look_put (s : List UInt8) (x : List UInt8 × Nat) (l : List (List UInt8 × Nat)) : sfLook s (sfPut x l) = if x.1 = s then some x.2 else sfLook s l := by
  unfold sfPut
  rw [look_ins s x (fun p hp => by have := (List.mem_filter.1 hp).2; simpa using this), look_del]
  by_cases e : x.1 = s
  · rw [if_pos e, if_pos e]
  · rw [if_neg e, if_neg e, if_neg (fun z => e z.symm)]
/-- The name of segment j, counted from 0. -/
def nk (j : Nat) : List UInt8 := nmF seg ((j : Int) + 1)
theorem nk_no {j : Nat} (h : j < 1000) : isNo ((j : Int) + 1) = true := isNo_iff.2 ⟨by omega, by omega⟩
theorem nk_inj {i j : Nat} (hi : i < 1000) (hj : j < 1000) (h : nk i = nk j) : i = j := by
  have := nmF_inj (by omega) (by omega) (by omega) (by omega) h
  omega
theorem nk_ne {j : Nat} (h : j < 1000) : nk j ≠ [] := by
  unfold nk
  rw [nmF_yes (by omega) (by omega)]
  unfold seg
  simp
/-- The segments of Ds lie in s: segment j is file j, and has sy j bytes that are synced. -/
structure Seg (s : SfS) (Ds : List (List Rc)) (sy : Nat → Nat) : Prop where
  pe : s.pend = []
  fl : s.fls.length = Ds.length
  di : s.dir = s.old
  lk : ∀ j, j < Ds.length → sfLook (nk j) s.old = some j
  fi : ∀ j (h : j < Ds.length), s.fls[j]? = some (cat (wrs Ds[j]), sy j)
/-- .. and would lie there behind any crash. -/
structure SegJ (s : SfS) (Ds : List (List Rc)) (sy : Nat → Nat) : Prop where
  lk : ∀ k j, j < Ds.length → sfLook (nk j) ((s.pend.take k).foldl sfDo s.old) = some j
  fi : ∀ j (h : j < Ds.length), s.fls[j]? = some (cat (wrs Ds[j]), sy j)
theorem Seg.j {s : SfS} {Ds : List (List Rc)} {sy : Nat → Nat} (h : Seg s Ds sy) : SegJ s Ds sy := ⟨fun k j hj => by rw [h.pe]; simp only [List.take_nil, List.foldl_nil]; exact h.lk j hj, h.fi⟩
theorem Seg.plan {s : SfS} {Ds : List (List Rc)} {sy : Nat → Nat} (h : Seg s Ds sy) : Seg (sfPlan s).2 Ds sy :=
  ⟨by rw [sfPlan_pend]; exact h.pe, by rw [sfPlan_fls]; exact h.fl, by rw [sfPlan_dir, sfPlan_old]; exact h.di, fun j hj => by rw [sfPlan_old]; exact h.lk j hj, fun j hj => by rw [sfPlan_fls]; exact h.fi j hj⟩
theorem seg_zero (r : Int) (sy : Nat → Nat) : Seg (sfZ r) [] sy := ⟨rfl, rfl, rfl, fun j hj => by simp at hj, fun j hj => by simp at hj⟩
theorem seg_fail {s : SfS} {Ds : List (List Rc)} {sy : Nat → Nat} (h : Seg s Ds sy) (n e : Int) : Seg (sfFail s n e).2 Ds sy := by
  unfold sfFail
  split
  · exact h
  · split
    · exact ⟨h.pe, h.fl, h.di, h.lk, h.fi⟩
    · exact ⟨h.pe, h.fl, h.di, h.lk, h.fi⟩
/-- Segment number Ds.length is started, or it isn't. -/
theorem seg_start {s : SfS} {Ds : List (List Rc)} {sy : Nat → Nat} (h : Seg s Ds sy) (hl : Ds.length < 900) :
    ((stF s ((Ds.length : Int) + 1)).1 = 0 → Seg (stF s ((Ds.length : Int) + 1)).2 (Ds ++ [[]]) (fun j => if j = Ds.length then 0 else sy j)) ∧ ((stF s ((Ds.length : Int) + 1)).1 ≠ 0 → SegJ (stF s ((Ds.length : Int) + 1)).2 Ds sy) := by
  have hno := nk_no (j := Ds.length) (by omega)
  have hnm := nm_name hno
  have hne := nk_ne (j := Ds.length) (by omega)
  have hin : ∀ j, j < Ds.length → nk Ds.length ≠ nk j := fun j hj e => by have := nk_inj (by omega) (by omega) e; omega
  have hnz : ∀ j, j < Ds.length → nk j ≠ [] := fun j hj => nk_ne (by omega)
  have hfold : stF s ((Ds.length : Int) + 1) = if (sfCreate s (nk Ds.length)).1 = 0 then sfSyncDir (sfCreate s (nk Ds.length)).2 else sfCreate s (nk Ds.length) := by
    unfold stF
    rw [if_neg (by rw [hno]; simp)]
    rfl
  rw [hfold]
  have hnm' : sfName (nk Ds.length) = true := hnm
  generalize hnmE : nk Ds.length = nm at *
  have hc : sfCreate s nm = if (sfLook nm s.dir).isSome = true then (80, s) else if 256 ≤ s.dir.length then (81, s) else sfChange (sfNew s) ⟨[], nm, some s.fls.length⟩ := by
    unfold sfCreate; rw [if_neg (by rw [hnm']; simp)]
  by_cases h1 : (sfLook nm s.dir).isSome = true
  · rw [hc, if_pos h1, if_neg (by simp)]
    exact ⟨fun q => by simp at q, fun _ => h.j⟩
  · by_cases h2 : 256 ≤ s.dir.length
    · rw [hc, if_neg h1, if_pos h2, if_neg (by simp)]
      exact ⟨fun q => by simp at q, fun _ => h.j⟩
    · rw [hc, if_neg h1, if_neg h2]
      have hfj : ∀ j (hj : j < Ds.length), (s.fls ++ [([], 0)])[j]? = some (cat (wrs Ds[j]), sy j) := fun j hj => by
        rw [List.getElem?_append_left (by rw [h.fl]; exact hj)]; exact h.fi j hj
      have hfl := h.fl
      have hdi := h.di
      have hpe := h.pe
      obtain ⟨e, P, hP⟩ : ∃ e P, sfPlan (sfNew s) = (e, P) := ⟨_, _, rfl⟩
      have p1 : P.dir = s.dir := by have := sfPlan_dir (sfNew s); rw [hP] at this; exact this
      have p2 : P.old = s.old := by have := sfPlan_old (sfNew s); rw [hP] at this; exact this
      have p3 : P.pend = [] := by have := sfPlan_pend (sfNew s); rw [hP] at this; exact this.trans hpe
      have p4 : P.fls = s.fls ++ [([], 0)] := by have := sfPlan_fls (sfNew s); rw [hP] at this; exact this
      by_cases he : e = 0
      · subst he
        have hch : sfChange (sfNew s) ⟨[], nm, some s.fls.length⟩ = (0, { P with dir := sfDo P.dir ⟨[], nm, some s.fls.length⟩, pend := P.pend ++ [⟨[], nm, some s.fls.length⟩] }) := by unfold sfChange; rw [hP, if_pos rfl]
        rw [hch, if_pos rfl]
        obtain ⟨S, hS⟩ : ∃ S : SfS, S = { P with dir := sfDo P.dir ⟨[], nm, some s.fls.length⟩, pend := P.pend ++ [⟨[], nm, some s.fls.length⟩] } := ⟨_, rfl⟩
        have s1 : S.dir = sfDo s.dir ⟨[], nm, some s.fls.length⟩ := by rw [hS, ← p1]
        have s2 : S.old = s.old := by rw [hS]; exact p2
        have s3 : S.pend = [⟨[], nm, some s.fls.length⟩] := by rw [hS]; show P.pend ++ _ = _; rw [p3]; rfl
        have s4 : S.fls = s.fls ++ [([], 0)] := by rw [hS]; exact p4
        simp only
        rw [← hS]
        have hlk : ∀ j, j < Ds.length → sfLook (nk j) (sfDo s.old ⟨[], nm, some s.fls.length⟩) = some j := fun j hj => by
          show sfLook (nk j) (sfPut (nm, s.fls.length) (sfDel [] s.old)) = _
          rw [look_put, if_neg (hin j hj), look_del, if_neg (hnz j hj)]
          exact h.lk j hj
        obtain ⟨e', Q, hQ⟩ : ∃ e Q, sfPlan S = (e, Q) := ⟨_, _, rfl⟩
        have q1 : Q.dir = S.dir := by have := sfPlan_dir S; rw [hQ] at this; exact this
        have q2 : Q.old = S.old := by have := sfPlan_old S; rw [hQ] at this; exact this
        have q3 : Q.pend = S.pend := by have := sfPlan_pend S; rw [hQ] at this; exact this
        have q4 : Q.fls = S.fls := by have := sfPlan_fls S; rw [hQ] at this; exact this
        by_cases he' : e' = 0
        · subst he'
          have hsd : sfSyncDir S = (0, sfSettle Q S.pend.length) := by unfold sfSyncDir; rw [hQ, if_pos rfl]
          rw [hsd]
          refine ⟨fun _ => ?_, fun q => absurd rfl q⟩
          have ho : (sfSettle Q S.pend.length).old = sfDo s.old ⟨[], nm, some s.fls.length⟩ := by
            show (Q.pend.take S.pend.length).foldl sfDo Q.old = _
            rw [q3, List.take_length, s3, q2, s2]; rfl
          refine ⟨rfl, ?_, ?_, fun j hj => ?_, fun j hj => ?_⟩
          · show Q.fls.length = _; rw [q4, s4, List.length_append, List.length_append, hfl]; rfl
          · rw [ho]; show Q.dir = _; rw [q1, s1, hdi]
          · rw [ho]
            rw [List.length_append] at hj
            by_cases hjl : j < Ds.length
            · exact hlk j hjl
            · have : j = Ds.length := by simp at hj; omega
              subst this
              rw [hnmE]
              show sfLook _ (sfPut (nm, s.fls.length) (sfDel [] s.old)) = _
              rw [look_put, if_pos rfl, hfl]
          · show Q.fls[j]? = _
            rw [q4, s4]
            by_cases hjl : j < Ds.length
            · rw [hfj j hjl, if_neg (by omega), List.getElem_append_left hjl]
            · have hj2 : j = Ds.length := by rw [List.length_append] at hj; simp at hj; omega
              subst hj2
              rw [if_pos rfl, List.getElem?_append_right (by omega), hfl]
              simp [wrs, cat]
        · have hsd : sfSyncDir S = (e', Q) := by unfold sfSyncDir; rw [hQ, if_neg he']
          rw [hsd]
          refine ⟨fun q => absurd q he', fun _ => ⟨fun k j hj => ?_, fun j hj => ?_⟩⟩
          · show sfLook _ ((Q.pend.take k).foldl sfDo Q.old) = _
            rw [q3, s3, q2, s2]
            cases k with
            | zero => exact h.lk j hj
            | succ k => rw [List.take_succ_cons, List.take_nil, List.foldl_cons, List.foldl_nil]; exact hlk j hj
          · show Q.fls[j]? = _; rw [q4, s4]; exact hfj j hj
      · have hch : sfChange (sfNew s) ⟨[], nm, some s.fls.length⟩ = (e, P) := by unfold sfChange; rw [hP, if_neg he]
        rw [hch, if_neg he]
        refine ⟨fun q => absurd q he, fun _ => ⟨fun k j hj => ?_, fun j hj => ?_⟩⟩
        · show sfLook _ ((P.pend.take k).foldl sfDo P.old) = _
          rw [p3, p2]; simp only [List.take_nil, List.foldl_nil]; exact h.lk j hj
        · show P.fls[j]? = _; rw [p4]; exact hfj j hj
theorem snoc_at (D0 : List (List Rc)) (D : List Rc) (j : Nat) (h : j < (D0 ++ [D]).length) : (D0 ++ [D])[j] = if h2 : j < D0.length then D0[j] else D := by
  split
  · rename_i h2; exact List.getElem_append_left h2
  · rename_i h2
    rw [List.getElem_append_right (by omega)]
    simp
/-- The last segment's bytes or its mark turn. -/
theorem seg_set {s : SfS} {D0 : List (List Rc)} {D D' : List Rc} {sy : Nat → Nat} (h : Seg s (D0 ++ [D]) sy) (b : Nat) : Seg (s.setF D0.length (cat (wrs D'), b)) (D0 ++ [D']) (fun j => if j = D0.length then b else sy j) := by
  have hl : (D0 ++ [D']).length = (D0 ++ [D]).length := by simp
  refine ⟨h.pe, ?_, h.di, fun j hj => h.lk j (by omega), fun j hj => ?_⟩
  · show (s.fls.set _ _).length = _; rw [List.length_set, h.fl, hl]
  · show (s.fls.set _ _)[j]? = _
    have hj' : j < (D0 ++ [D]).length := by omega
    have hfj := h.fi j hj'
    rw [snoc_at] at hfj
    rw [snoc_at]
    by_cases h2 : j < D0.length
    · rw [List.getElem?_set_ne (by omega), hfj, dif_pos h2, dif_pos h2, if_neg (by omega)]
    · have : j = D0.length := by simp at hj; omega
      subst this
      rw [dif_neg h2, if_pos rfl, List.getElem?_set_self (by rw [h.fl]; simp)]
theorem seg_last {s : SfS} {D0 : List (List Rc)} {D : List Rc} {sy : Nat → Nat} (h : Seg s (D0 ++ [D]) sy) : sfLook (nk D0.length) s.dir = some D0.length ∧ s.fl D0.length = (cat (wrs D), sy D0.length) := by
  refine ⟨by rw [h.di]; exact h.lk _ (by simp), ?_⟩
  have := h.fi D0.length (by simp)
  rw [snoc_at, dif_neg (by omega)] at this
  unfold SfS.fl
  rw [List.getD_eq_getElem?_getD, this]; rfl
theorem seg_append {s : SfS} {D0 : List (List Rc)} {D : List Rc} {sy : Nat → Nat} (h : Seg s (D0 ++ [D]) sy) (x : Rc) :
    ((sfAppend s (nk D0.length) (frm (wrR x.p x.m))).1 = 0 → Seg (sfAppend s (nk D0.length) (frm (wrR x.p x.m))).2 (D0 ++ [D ++ [x]]) (fun j => if j = D0.length then sy D0.length else sy j)) ∧ ((sfAppend s (nk D0.length) (frm (wrR x.p x.m))).1 ≠ 0 → Seg (sfAppend s (nk D0.length) (frm (wrR x.p x.m))).2 (D0 ++ [D]) sy) := by
  obtain ⟨h1, h2⟩ := seg_last h
  unfold sfAppend
  rw [h1]
  simp only
  rw [h2]
  split
  · exact ⟨fun q => by simp at q, fun _ => h⟩
  · split
    · exact ⟨fun q => by simp at q, fun _ => h⟩
    · split
      · refine ⟨fun _ => ?_, fun q => absurd rfl q⟩
        have := seg_set (D' := D ++ [x]) h.plan (sy D0.length)
        rw [wrs_snoc] at this
        exact this
      · rename_i hp
        exact ⟨fun q => absurd q hp, fun _ => h.plan⟩
theorem seg_sync {s : SfS} {D0 : List (List Rc)} {D : List Rc} {sy : Nat → Nat} (h : Seg s (D0 ++ [D]) sy) :
    ((sfSync s (nk D0.length)).1 = 0 → Seg (sfSync s (nk D0.length)).2 (D0 ++ [D]) (fun j => if j = D0.length then (cat (wrs D)).length else sy j)) ∧ ((sfSync s (nk D0.length)).1 ≠ 0 → Seg (sfSync s (nk D0.length)).2 (D0 ++ [D]) sy) := by
  obtain ⟨h1, h2⟩ := seg_last h
  unfold sfSync
  rw [h1]
  simp only
  rw [h2]
  split
  · exact ⟨fun _ => seg_set (D' := D) h.plan _, fun q => absurd rfl q⟩
  · rename_i hp
    exact ⟨fun q => absurd q hp, fun _ => h.plan⟩
/-- What a crash leaves of a file: a front that has all that was synced. -/
theorem cuts_fl : ∀ (dir : List (List UInt8 × Nat)) (ks : List Int) (fls : List (List UInt8 × Nat)) (i : Nat) (f : List UInt8 × Nat), fls[i]? = some f → f.2 ≤ f.1.length → ∃ c m, f.2 ≤ c ∧ f.2 ≤ m ∧ (sfCuts dir ks fls)[i]? = some (f.1.take c, m) ∧ m ≤ (f.1.take c).length
  | [], ks, fls, i, f, h, hf => ⟨f.1.length, f.2, hf, Nat.le_refl _, by rw [sfCuts, h, List.take_length], by rw [List.take_length]; exact hf⟩
  | q :: r, ks, fls, i, f, h, hf => by
    rw [sfCuts]
    by_cases e : q.2 = i
    · have hlt : i < fls.length := (List.getElem?_eq_some_iff.1 h).1
      have hg : fls.getD q.2 ([], 0) = f := by rw [e, List.getD_eq_getElem?_getD, h]; rfl
      rw [hg]
      have h0 : (fls.set q.2 (sfCut f (ks.headD 0)))[i]? = some (sfCut f (ks.headD 0)) := by rw [e, List.getElem?_set_self hlt]
      obtain ⟨c, m, h1, h2, h3, h4⟩ := cuts_fl r ks.tail _ i _ h0 (by unfold sfCut; simp only [List.length_take]; omega)
      have k1 : f.2 ≤ (sfCut f (ks.headD 0)).2 := by unfold sfCut; simp only; omega
      refine ⟨min c (f.2 + min (max (ks.headD 0) 0).toNat (f.1.length - f.2)), m, ?_, by omega, ?_, ?_⟩
      · unfold sfCut at h1 k1; simp only at h1 k1; omega
      · rw [h3]; unfold sfCut; simp only [List.take_take]
      · unfold sfCut at h4; simp only [List.take_take] at h4; exact h4
    · have h0 : (fls.set q.2 (sfCut (fls.getD q.2 ([], 0)) (ks.headD 0)))[i]? = some f := by rw [List.getElem?_set_ne e]; exact h
      exact cuts_fl r ks.tail _ i f h0 hf
theorem seg_crash {s : SfS} {Ds : List (List Rc)} {sy : Nat → Nat} (h : SegJ s Ds sy) (hw : SfWf s) (n : Int) (ks : List Int) (j : Nat) (hj : j < Ds.length) :
    sfLook (nk j) (sfCrash s n ks).dir = some j ∧ ∃ c, sy j ≤ c ∧ sfRead (sfCrash s n ks) (nk j) = (cat (wrs Ds[j])).take c := by
  have h1 : sfLook (nk j) (sfCrash s n ks).dir = some j := h.lk _ j hj
  refine ⟨h1, ?_⟩
  have hf := h.fi j hj
  obtain ⟨c, m, g1, _, g3, _⟩ := cuts_fl (sfSettle s (max n 0).toNat).old ks s.fls j _ hf (hw.sy j _ hf).1
  refine ⟨c, g1, ?_⟩
  unfold sfRead
  rw [h1]
  show ((sfCrash s n ks).fl j).1 = _
  unfold SfS.fl
  rw [List.getD_eq_getElem?_getD]
  have : (sfCrash s n ks).fls[j]? = some ((cat (wrs Ds[j])).take c, m) := g3
  rw [this]; rfl
end Go.Proofs.YtegcomopcoapjaaGreatDoor

/- Lists of rows of records, opened. -/
namespace Go.Proofs.YtegcomopcoapjaaGreatDoor
open Go.ChangeShapes Go.WideShapes Go.ChangeAt Go.RowKit Go.Joins

/-- A slice of rows of records. -/
def RssR (w : World) (v : Value) (LL : List (List Rc)) : Prop :=
  ∃ a cap, v = .slice a LL.length cap ∧ LL.length ≤ maxLen ∧ (LL = [] ∨ ∃ b off, a = some ⟨b, off, none⟩ ∧ b < w.heap.size ∧ ∀ j (hj : j < LL.length), ∃ u, w.cell? ⟨b, off + j, none⟩ = some u ∧ RsR w u LL[j])
theorem RssR.form {w : World} {v : Value} {LL : List (List Rc)} (h : RssR w v LL) : ∃ a cap, v = .slice a LL.length cap ∧ LL.length ≤ maxLen := by
  obtain ⟨a, cap, rfl, h1, _⟩ := h
  exact ⟨a, cap, rfl, h1⟩
theorem RssR.at {w : World} {a : Option Addr} {n cap : Nat} {LL : List (List Rc)} (h : RssR w (.slice a n cap) LL) {j : Nat} (hj : j < LL.length) {L : List Rc} (hL : L = LL[j]) : ∃ b off u, a = some ⟨b, off, none⟩ ∧ b < w.heap.size ∧ w.cell? ⟨b, off + j, none⟩ = some u ∧ RsR w u L := by
  subst hL
  obtain ⟨a', cap', e, h1, h2⟩ := h
  cases e
  rcases h2 with h2 | ⟨b, off, h3, h4, h5⟩
  · subst h2; simp at hj
  · obtain ⟨u, h6, h7⟩ := h5 j hj
    exact ⟨b, off, u, h3, h4, h6, h7⟩
set_option maxRecDepth 100000 in
theorem openRs2 {H : Type} {enc : TypeId × Value → H} {W : World} {base : Nat} {spare : Nat → Bool} {held : Bool} {v : Value} {d : DataW H × List MemPlace} {fuel : Nat}
    (hf : DataW.trod enc Tryz.prog W base spare held fuel 33 [v] = some d) : ∃ L : List Rc, RsR W v L := by
  rcases Go.Deep.open_slice Tryz.underlying33 hf with ⟨hcs, _⟩ | ⟨x, len, cap, m, n, D, Pl, hcs, _, hl, hm, hz, _, hcell⟩
  · simp at hcs
    subst hcs
    exact ⟨[], none, 0, rfl, by simp, .inl rfl⟩
  · simp at hcs
    subst hcs
    have hzl : len ≤ m := by rw [hz]; split <;> omega
    have hce : Tryz.prog.cellsOf 37 = 2 := by kernel_rfl
    rw [hce] at hcell
    have hall : ∀ j, ∃ (y : Rc), j < len → (∀ i (hi : i < 2), W.cell? ((x.add (j * 2)).add i) = some ((c2r y)[i]'hi)) ∧ RcOk W y := by
      intro j
      by_cases hj : j < len
      · obtain ⟨cs', hc1, hc2⟩ := hcell j (by omega)
        obtain ⟨_, hl2, hq⟩ := World.cells?_some hc1
        obtain ⟨c0, c1, rfl⟩ : ∃ c0 c1, cs' = [c0, c1] := by
          match cs', hl2 with
          | [c0, c1], _ => exact ⟨c0, c1, rfl⟩
        obtain ⟨q, hr, hk⟩ := openRc' hc2
        refine ⟨q, fun _ => ⟨fun i hi => ?_, hk⟩⟩
        have h0 := hq i (by simpa using hi)
        rw [h0, hr, List.getElem?_eq_getElem (show i < (c2r q).length from hi)]
        rfl
      · exact ⟨⟨.bool false, [], 0⟩, fun h => absurd h hj⟩
    obtain ⟨ys, hys⟩ := Classical.axiomOfChoice hall
    have hmx : len ≤ maxLen := by omega
    rcases Nat.eq_zero_or_pos len with h0 | h0
    · subst h0
      exact ⟨[], _, cap, rfl, by simp, .inl rfl⟩
    · have k0 := (hys 0 h0).1 0 (by decide)
      have e0 : (x.add (0 * 2)).add 0 = x := by simp [Addr.add]
      rw [e0] at k0
      obtain ⟨hb, hs⟩ := cell_block k0
      obtain ⟨b, off, spot⟩ := x
      simp only at hb hs
      subst hs
      refine ⟨(List.range len).map ys, _, cap, by simp, by simpa using hmx, .inr ⟨b, off, rfl, hb, fun j hj => ?_⟩⟩
      simp at hj
      obtain ⟨g1, g2⟩ := hys j hj
      have e : ((List.range len).map ys)[j]'(by simpa using hj) = ys j := by simp
      rw [e]
      refine ⟨fun i hi => ?_, g2⟩
      have g := g1 i hi
      have ea : (⟨b, off, none⟩ : Addr).add (j * 2) = ⟨b, off + j * 2, none⟩ := by simp [Addr.add]
      have eb : (⟨b, off + j * 2, none⟩ : Addr).add i = ⟨b, off + j * 2 + i, none⟩ := by simp [Addr.add]
      rw [ea, eb, Nat.add_assoc] at g
      exact g
set_option maxRecDepth 100000 in
theorem openRss {H : Type} {enc : TypeId × Value → H} {W : World} {r : Reach} {b0 base : Nat} {spare : Nat → Bool} {held : Bool} {v : Value} {d : DataW H} {p : List MemPlace}
    (hv : Value.okWide Tryz.prog W r b0 22 v) (h : DataW.Trod enc Tryz.prog W base spare held 22 v d p) : ∃ LL : List (List Rc), RssR W v LL := by
  obtain ⟨a, len, cap, rfl⟩ := okWide_slice Tryz.underlying22 hv
  obtain ⟨fuel, hf⟩ := h
  rcases Go.Deep.open_slice Tryz.underlying22 hf with ⟨hcs, _⟩ | ⟨x, l, c, m, n, D, Pl, hcs, _, hl, hm, hz, _, hcell⟩
  · simp [Value.cells] at hcs
    obtain ⟨rfl, rfl, rfl⟩ := hcs
    exact ⟨[], none, 0, rfl, by simp, .inl rfl⟩
  · simp [Value.cells] at hcs
    obtain ⟨rfl, rfl, rfl⟩ := hcs
    have hzl : len ≤ m := by rw [hz]; split <;> omega
    have hce : Tryz.prog.cellsOf 33 = 1 := by kernel_rfl
    rw [hce] at hcell
    have hall : ∀ j, ∃ (y : List Rc), j < len → ∃ u, W.cell? (x.add j) = some u ∧ RsR W u y := by
      intro j
      by_cases hj : j < len
      · obtain ⟨cs', hc1, hc2⟩ := hcell j (by omega)
        obtain ⟨_, hl2, hq⟩ := World.cells?_some hc1
        obtain ⟨c0, rfl⟩ : ∃ c0, cs' = [c0] := by
          match cs', hl2 with
          | [c0], _ => exact ⟨c0, rfl⟩
        obtain ⟨q, hr⟩ := openRs2 hc2
        refine ⟨q, fun _ => ⟨c0, ?_, hr⟩⟩
        have h0 := hq 0 (by decide)
        rw [Nat.mul_one] at h0
        have e1 : (x.add j).add 0 = x.add j := by simp [Addr.add]
        rw [e1] at h0
        simpa using h0
      · exact ⟨[], fun h => absurd h hj⟩
    obtain ⟨ys, hys⟩ := Classical.axiomOfChoice hall
    have hmx : len ≤ maxLen := by omega
    rcases Nat.eq_zero_or_pos len with h0 | h0
    · subst h0
      exact ⟨[], _, cap, rfl, by simp, .inl rfl⟩
    · obtain ⟨u0, k0, _⟩ := hys 0 h0
      have e0 : x.add 0 = x := by simp [Addr.add]
      rw [e0] at k0
      obtain ⟨hb, hs⟩ := cell_block k0
      obtain ⟨b, off, spot⟩ := x
      simp only at hb hs
      subst hs
      refine ⟨(List.range len).map ys, _, cap, by simp, by simpa using hmx, .inr ⟨b, off, rfl, hb, fun j hj => ?_⟩⟩
      simp at hj
      obtain ⟨u, g1, g2⟩ := hys j hj
      have e : ((List.range len).map ys)[j]'(by simpa using hj) = ys j := by simp
      rw [e]
      have ea : (⟨b, off, none⟩ : Addr).add j = ⟨b, off + j, none⟩ := by simp [Addr.add]
      rw [ea] at g1
      exact ⟨u, g1, g2⟩
end Go.Proofs.YtegcomopcoapjaaGreatDoor

/- TopSegments: what stands between its steps; each step's contract. -/
namespace Go.Proofs.YtegcomopcoapjaaGreatDoor
open Go.RowKit Go.Shelf

/-- A file system, and rows of records (vs reads Ds), and the row av of these rows; X: the rows' own blocks. -/
structure TsI (W : World) (p : Value) (s : SfS) (av : Value) (vs : List Value) (Ds : List (List Rc)) (O X : Nat → Prop) (wr : World) : Prop where
  fs : Fs wr O p s
  lo : ∀ k, O k → W.heap.size ≤ k
  xo : ∀ k, X k → ¬ O k ∧ k < wr.heap.size
  vl : vs.length = Ds.length
  ro : ∀ i (h : i < Ds.length) (h2 : i < vs.length), GOwn wr 37 2 vs[i] Ds[i].length (Ds[i].flatMap c2r) ∧ ∀ k, vs[i].ownBlock = some k → X k
  al : GOwn wr 33 1 av vs.length vs
  ak : ∀ k, av.ownBlock = some k → ¬ O k ∧ ¬ X k ∧ W.heap.size ≤ k ∧ k < wr.heap.size
  be : Below W.heap.size W wr
theorem TsI.turn {W : World} {p : Value} {s s' : SfS} {av : Value} {vs : List Value} {Ds : List (List Rc)} {O O' X T : Nat → Prop} {wr w' : World} (h : TsI W p s av vs Ds O X wr)
    (hf : Fs w' O' p s') (hO : ∀ k, O' k → O k ∨ wr.heap.size ≤ k) (hk : ∀ k, k < wr.heap.size → ¬ O k → ¬ T k → w'.heap[k]? = wr.heap[k]?) (hT : ∀ k, T k → ¬ X k ∧ av.ownBlock ≠ some k) (hs : wr.heap.size ≤ w'.heap.size) (hb : Below W.heap.size W w') : TsI W p s' av vs Ds O' X w' := by
  have hbs := h.be.size
  have hX : ∀ k, X k → w'.heap[k]? = wr.heap[k]? := fun k hx => hk k (h.xo k hx).2 (h.xo k hx).1 (fun t => (hT k t).1 hx)
  refine ⟨hf, fun k q => ?_, fun k q => ⟨fun z => ?_, by have := (h.xo k q).2; omega⟩, h.vl, fun i h1 h2 => ⟨(h.ro i h1 h2).1.keep fun k q => hX k ((h.ro i h1 h2).2 k q), (h.ro i h1 h2).2⟩, h.al.keep fun k q => hk k (h.ak k q).2.2.2 (h.ak k q).1 (fun t => (hT k t).2 q), fun k q => ⟨fun z => ?_, (h.ak k q).2.1, (h.ak k q).2.2.1, by have := (h.ak k q).2.2.2; omega⟩, hb⟩
  · rcases hO k q with z | z
    · exact h.lo k z
    · omega
  · rcases hO k z with y | y
    · exact (h.xo k q).1 y
    · have := (h.xo k q).2; omega
  · rcases hO k z with y | y
    · exact (h.ak k q).1 y
    · have := (h.ak k q).2.2.2; omega
theorem TsI.below {W : World} {p : Value} {s : SfS} {av : Value} {vs : List Value} {Ds : List (List Rc)} {O X : Nat → Prop} {wr w' : World} (h : TsI W p s av vs Ds O X wr) (hb : Below wr.heap.size wr w') : TsI W p s av vs Ds O X w' :=
  h.turn (T := fun _ => False) (h.fs.below hb) (fun _ q => .inl q) (fun k q _ _ => hb.block k q) (fun _ q => q.elim) hb.size (h.be.trans (hb.mono h.be.size))
theorem TsI.onl {W : World} {p : Value} {s s' : SfS} {av : Value} {vs : List Value} {Ds : List (List Rc)} {O O' X : Nat → Prop} {wr w' : World} (h : TsI W p s av vs Ds O X wr) (hf : Fs w' O' p s') (hO : ∀ k, O' k → Grw O wr w' k) (ho : Onl O wr w') : TsI W p s' av vs Ds O' X w' :=
  h.turn (T := fun _ => False) hf (fun k q => (hO k q).elim .inl (fun z => .inr z.1)) (fun k q z _ => ho.block k q z) (fun _ q => q.elim) ho.size (h.be.trans (ho.below h.be.size h.lo))
/-- What is known of the records. -/
structure TsR (W : World) (Ds : List (List Rc)) : Prop where
  r : ∀ D ∈ Ds, rgt D
  c : ∀ D ∈ Ds, ∀ x ∈ D, RcOk W x
  l : ∀ D ∈ Ds, D.length ≤ 12
theorem TsR.snoc {W : World} {Ds : List (List Rc)} {D : List Rc} (h : TsR W Ds) (h1 : rgt D) (h2 : ∀ x ∈ D, RcOk W x) (h3 : D.length ≤ 12) : TsR W (Ds ++ [D]) := by
  refine ⟨fun E hE => ?_, fun E hE => ?_, fun E hE => ?_⟩ <;> rcases List.mem_append.1 hE with q | q
  · exact h.r E q
  · simp at q; subst q; exact h1
  · exact h.c E q
  · simp at q; subst q; exact h2
  · exact h.l E q
  · simp at q; subst q; exact h3
def Full (sy : Nat → Nat) (Ds : List (List Rc)) (n : Nat) : Prop := ∀ j (h : j < Ds.length), j < n → sy j = (cat (wrs Ds[j])).length
/-- At a round's start: every segment is synced. -/
def TsL (W : World) (p av : Value) (vs : List Value) (Ds : List (List Rc)) (O : Nat → Prop) (w : World) : Prop := ∃ s sy X, TsI W p s av vs Ds O X w ∧ Seg s Ds sy ∧ Full sy Ds Ds.length ∧ TsR W Ds
/-- When all is done: every segment but the last is synced. -/
def TsD (W : World) (p av : Value) (vs : List Value) (Ds : List (List Rc)) (O : Nat → Prop) (w : World) : Prop := ∃ s sy X, TsI W p s av vs Ds O X w ∧ SegJ s Ds sy ∧ Full sy Ds (Ds.length - 1) ∧ TsR W Ds
theorem TsL.d {W : World} {p av : Value} {vs : List Value} {Ds : List (List Rc)} {O : Nat → Prop} {w : World} (h : TsL W p av vs Ds O w) : TsD W p av vs Ds O w := by
  obtain ⟨s, sy, X, h1, h2, h3, h4⟩ := h
  exact ⟨s, sy, X, h1, h2.j, fun j q z => h3 j q (by omega), h4⟩
/-- With a segment open: dv reads D, its file has E. -/
structure TsO (W : World) (p : Value) (s : SfS) (av : Value) (vs : List Value) (Ds : List (List Rc)) (O X : Nat → Prop) (g : Nat) (dv : Value) (D : List Rc) (wr : World) : Prop where
  i : TsI W p s av vs Ds O X wr
  lg : LgAt wr g p (nk Ds.length)
  go : ¬ O g
  ag : av.ownBlock ≠ some g
  dn : GOwn wr 37 2 dv D.length (D.flatMap c2r)
  dk : ∀ k, dv.ownBlock = some k → ¬ O k ∧ ¬ X k ∧ av.ownBlock ≠ some k ∧ W.heap.size ≤ k ∧ k < wr.heap.size ∧ k ≠ g
def TsP (W : World) (p av : Value) (vs : List Value) (Ds : List (List Rc)) (g : Nat) (dv : Value) (D E : List Rc) (O : Nat → Prop) (w : World) : Prop := ∃ s sy X, TsO W p s av vs Ds O X g dv D w ∧ Seg s (Ds ++ [E]) sy ∧ Full sy Ds Ds.length ∧ TsR W Ds ∧ rgt E ∧ ∀ x ∈ E, RcOk W x
theorem TsO.below {W : World} {p : Value} {s : SfS} {av : Value} {vs : List Value} {Ds : List (List Rc)} {O X : Nat → Prop} {g : Nat} {dv : Value} {D : List Rc} {wr w' : World} (h : TsO W p s av vs Ds O X g dv D wr) (hb : Below wr.heap.size wr w') : TsO W p s av vs Ds O X g dv D w' :=
  ⟨h.i.below hb, h.lg.onl (O := O) (onl_of_below hb) h.go, h.go, h.ag, h.dn.keep fun k q => hb.block k (h.dk k q).2.2.2.2.1, fun k q => ⟨(h.dk k q).1, (h.dk k q).2.1, (h.dk k q).2.2.1, (h.dk k q).2.2.2.1, Nat.lt_of_lt_of_le (h.dk k q).2.2.2.2.1 hb.size, (h.dk k q).2.2.2.2.2⟩⟩
theorem TsP.below {W : World} {p av : Value} {vs : List Value} {Ds : List (List Rc)} {g : Nat} {dv : Value} {D E : List Rc} {O : Nat → Prop} {w w' : World} (h : TsP W p av vs Ds g dv D E O w) (hb : Below w.heap.size w w') : TsP W p av vs Ds g dv D E O w' := by
  obtain ⟨s, sy, X, h1, r⟩ := h
  exact ⟨s, sy, X, h1.below hb, r⟩
theorem TsP.be {W : World} {p av : Value} {vs : List Value} {Ds : List (List Rc)} {g : Nat} {dv : Value} {D E : List Rc} {O : Nat → Prop} {w : World} (h : TsP W p av vs Ds g dv D E O w) : Below W.heap.size W w := by
  obtain ⟨s, sy, X, h1, r⟩ := h
  exact h1.i.be
theorem TsP.dn {W : World} {p av : Value} {vs : List Value} {Ds : List (List Rc)} {g : Nat} {dv : Value} {D E : List Rc} {O : Nat → Prop} {w : World} (h : TsP W p av vs Ds g dv D E O w) : GOwn w 37 2 dv D.length (D.flatMap c2r) := by
  obtain ⟨s, sy, X, h1, r⟩ := h
  exact h1.dn
theorem TsL.al {W : World} {p av : Value} {vs : List Value} {Ds : List (List Rc)} {O : Nat → Prop} {w : World} (h : TsL W p av vs Ds O w) : GOwn w 33 1 av Ds.length vs := by
  obtain ⟨s, sy, X, h1, r⟩ := h
  rw [← h1.vl]; exact h1.al
theorem TsL.be {W : World} {p av : Value} {vs : List Value} {Ds : List (List Rc)} {O : Nat → Prop} {w : World} (h : TsL W p av vs Ds O w) : Below W.heap.size W w := by
  obtain ⟨s, sy, X, h1, r⟩ := h
  exact h1.be
theorem nk_len (j : Nat) : (nk j).length ≤ maxLen := by unfold nk; have := nm_len (n := (j : Int) + 1); unfold maxLen; omega
/-- Start. -/
theorem ts_start {W : World} {p av : Value} {vs : List Value} {Ds : List (List Rc)} {O : Nat → Prop} {w : World} (h : TsL W p av vs Ds O w) (hl : Ds.length < 6) : Calls Tryz.prog 7 #[p, .int .i64 ((Ds.length : Int) + 1)] w fun e w' =>
    (∃ E O', E ≠ 0 ∧ e = .returned (.tuple #[.pointer none, .int .i64 E]) ∧ TsD W p av vs Ds O' w') ∨ ∃ g O', e = .returned (.tuple #[.pointer (some ⟨g, 0, none⟩), .int .i64 0]) ∧ TsP W p av vs Ds g (.slice none 0 0) [] [] O' w' := by
  obtain ⟨s, sy, X, h1, h2, h3, h4⟩ := h
  refine (start_any h1.fs ((Ds.length : Int) + 1) (by rw [h2.pe]; decide) (.inl (by omega))).mono ?_
  rintro e w' ⟨lv, O', rfl, hf, hO, ho, hlv⟩
  obtain ⟨q1, q2⟩ := seg_start h2 (by omega)
  have hi := h1.onl hf hO ho
  rcases hlv with ⟨hE, rfl⟩ | ⟨hE, g, rfl, hlg, hgo, hgs⟩
  · exact .inl ⟨_, O', hE, rfl, _, sy, X, hi, q2 hE, fun j a b => h3 j a (by omega), h4⟩
  · refine .inr ⟨g, O', by rw [hE], _, _, X, ⟨hi, hlg, hgo, fun e => ?_, GOwn.nil _ _ _, fun k q => by simp [Value.ownBlock] at q⟩, q1 hE, fun j a b => ?_, h4, (fun x hx => by cases hx), (fun x hx => by cases hx)⟩
    · have := (h1.ak g e).2.2.2; omega
    · show (if j = Ds.length then 0 else sy j) = _
      rw [if_neg (by omega)]; exact h3 j a b
/-- Add. -/
theorem ts_add {W : World} {p av : Value} {vs : List Value} {Ds : List (List Rc)} {g : Nat} {dv : Value} {D : List Rc} {O : Nat → Prop} {w : World} (h : TsP W p av vs Ds g dv D D O w) (x : Rc) (hx : RcOk W x) : Calls Tryz.prog 9 #[.pointer (some ⟨g, 0, none⟩), x.val] w fun e w' =>
    ∃ E O', e = .returned (.int .i64 E) ∧ ((E = 0 ∧ TsP W p av vs Ds g dv D (D ++ [x]) O' w') ∨ (E ≠ 0 ∧ TsP W p av vs Ds g dv D D O' w')) := by
  obtain ⟨s, sy, X, h1, h2, h3, h4, h5, h6⟩ := h
  refine (logAdd_any h1.i.fs h1.lg h1.go (nk_len _) x (hx.below h1.i.be)).mono ?_
  rintro e w' ⟨O', rfl, hf, hO, ho⟩
  have hgl : g < w.heap.size := (Array.getElem?_eq_some_iff.1 h1.lg).1
  have hi : TsO W p (lgAdd s (nk Ds.length) x).2 av vs Ds O' X g dv D w' := by
    refine ⟨h1.i.onl hf hO ho, h1.lg.onl ho h1.go, fun q => ?_, h1.ag, h1.dn.keep fun k q => ho.block k (h1.dk k q).2.2.2.2.1 (h1.dk k q).1, fun k q => ⟨fun z => ?_, (h1.dk k q).2.1, (h1.dk k q).2.2.1, (h1.dk k q).2.2.2.1, Nat.lt_of_lt_of_le (h1.dk k q).2.2.2.2.1 ho.size, (h1.dk k q).2.2.2.2.2⟩⟩
    · rcases hO g q with z | z
      · exact h1.go z
      · omega
    · rcases hO k z with y | y
      · exact (h1.dk k q).1 y
      · have := (h1.dk k q).2.2.2.2.1; omega
  refine ⟨_, O', rfl, ?_⟩
  by_cases hrt : rightR x.p x.m = true
  · rw [lg_yes hrt] at hi ⊢
    obtain ⟨q1, q2⟩ := seg_append h2 x
    by_cases hE : (sfAppend s (nk Ds.length) (frm (wrR x.p x.m))).1 = 0
    · refine .inl ⟨hE, _, _, X, hi, q1 hE, fun j a b => ?_, h4, rgt_snoc h5 hrt, fun y hy => ?_⟩
      · show (if j = Ds.length then sy Ds.length else sy j) = _
        rw [if_neg (by omega)]; exact h3 j a b
      · rcases List.mem_append.1 hy with z | z
        · exact h6 y z
        · simp at z; subst z; exact hx
    · exact .inr ⟨hE, _, sy, X, hi, q2 hE, h3, h4, h5, h6⟩
  · rw [lg_no (by simpa using hrt)] at hi ⊢
    exact .inr ⟨by simp, _, sy, X, hi, h2, h3, h4, h5, h6⟩
/-- done = append(done, x). -/
theorem ts_app {W : World} {p av : Value} {vs : List Value} {Ds : List (List Rc)} {g : Nat} {dv : Value} {D E : List Rc} {O : Nat → Prop} {w : World} (h : TsP W p av vs Ds g dv D E O w) (ty : TypeId) (x : Rc) (hx : ∃ a n c, x.v = .slice a n c) (hl : D.length < 1099511627776) :
    ∃ v' w', (Builtin.append_ #[33, 33] ty #[dv, .slice (some ⟨w.heap.size, 0, none⟩) 1 1]).run Tryz.prog (w.alloc (.cells #[x.v, .int .i64 x.m] 37)) = .ok v' w' ∧ TsP W p av vs Ds g v' (D ++ [x]) E O w' := by
  obtain ⟨s, sy, X, h, r⟩ := h
  obtain ⟨v', w', h1, h2, h3, h4⟩ := run_appRc rtyW ty dv D x hx h.dn (fun k hk => (h.dk k hk).2.2.2.2.1) hl
  have hgl : g < w.heap.size := (Array.getElem?_eq_some_iff.1 h.lg).1
  have hbs := h.i.be.size
  have hsz := h3.size
  simp only [World.size_alloc] at hsz
  have keep : ∀ k, k < w.heap.size → some k ≠ dv.ownBlock → w'.heap[k]? = w.heap[k]? := fun k hk hq => (h3.block k (by simp; omega) hq).trans (Below.heap_alloc _ _ _ hk)
  refine ⟨v', w', h1, s, sy, X, ⟨h.i.turn (T := fun k => dv.ownBlock = some k) (h.i.fs.keep (fun k hk => keep k (h.i.fs.lt k hk) (fun e => (h.dk k e.symm).1 hk)) (by omega)) (fun k q => .inl q) (fun k q _ z => keep k q (fun e => z e.symm)) (fun k q => ⟨(h.dk k q).2.1, (h.dk k q).2.2.1⟩) (by omega) ((h.i.be.alloc hbs _).grown h3 (by simp; omega) (fun k hk => (h.dk k hk).2.2.2.1)), (keep g hgl (fun e => (h.dk g e.symm).2.2.2.2.2 rfl)).trans h.lg, h.go, h.ag, h2, fun k hk => ?_⟩, r⟩
  rcases h4 k hk with q | q
  · have := h.dk k q; exact ⟨this.1, this.2.1, this.2.2.1, this.2.2.2.1, by omega, this.2.2.2.2.2⟩
  · exact ⟨fun hO => by have := h.i.fs.lt k hO; omega, fun hX => by have := (h.i.xo k hX).2; omega, fun hA => by have := (h.i.ak k hA).2.2.2; omega, by omega, q.2, by omega⟩
/-- With a segment that was open, not synced yet. -/
def TsQ (W : World) (p av : Value) (vs : List Value) (Ds : List (List Rc)) (D : List Rc) (g : Nat) (O : Nat → Prop) (w : World) : Prop := ∃ s sy X, TsI W p s av vs (Ds ++ [D]) O X w ∧ LgAt w g p (nk Ds.length) ∧ ¬ O g ∧ Seg s (Ds ++ [D]) sy ∧ Full sy Ds Ds.length ∧ TsR W (Ds ++ [D])
theorem full_snoc {sy : Nat → Nat} {Ds : List (List Rc)} {D : List Rc} (h : Full sy Ds Ds.length) : Full sy (Ds ++ [D]) ((Ds ++ [D]).length - 1) := by
  intro j a b
  have hj : j < Ds.length := by simp at b; omega
  rw [snoc_at, dif_pos hj]
  exact h j hj hj
theorem TsQ.d {W : World} {p av : Value} {vs : List Value} {Ds : List (List Rc)} {D : List Rc} {g : Nat} {O : Nat → Prop} {w : World} (h : TsQ W p av vs Ds D g O w) : TsD W p av vs (Ds ++ [D]) O w := by
  obtain ⟨s, sy, X, h1, _, _, h2, h3, h4⟩ := h
  exact ⟨s, sy, X, h1, h2.j, full_snoc h3, h4⟩
theorem infoRs : (Tryz.prog.info? 33).map (fun i => (i.zero, i.size, i.bytes)) = some (some (.slice none 0 0), 1, 24) := by kernel_rfl
/-- all = append(all, done). -/
theorem ts_close {W : World} {p av : Value} {vs : List Value} {Ds : List (List Rc)} {g : Nat} {dv : Value} {D : List Rc} {O : Nat → Prop} {w : World} (h : TsP W p av vs Ds g dv D D O w) (ty : TypeId) (hl : D.length ≤ 12) (hn : Ds.length < 1000) :
    ∃ v' w', (Builtin.append_ #[22, 22] ty #[av, .slice (some ⟨w.heap.size, 0, none⟩) 1 1]).run Tryz.prog (w.alloc (.cells #[dv] 33)) = .ok v' w' ∧ TsQ W p v' (vs ++ [dv]) Ds D g O w' := by
  obtain ⟨s, sy, X, h, r1, r2, r3, r4, r5⟩ := h
  obtain ⟨i0, hi, hz0, hz1, hz2⟩ := info_parts infoRs
  have hvl := h.i.vl
  have h0 : GOwn (w.alloc (.cells #[dv] 33)) 33 1 av vs.length vs := h.i.al.keep fun k hq => Below.heap_alloc _ _ _ (h.i.ak k hq).2.2.2
  have hb4 := heap_alloc_new w (.cells #[dv] 33)
  have hsr : GSrc (w.alloc (.cells #[dv] 33)) 1 (.slice (some ⟨w.heap.size, 0, none⟩) 1 1) 1 [dv] := by
    refine ⟨rfl, .inr ⟨_, _, rfl, fun k u hq => ?_⟩⟩
    match k, hq with
    | 0, hq => simp at hq; subst hq; exact cell_of hb4 0 _ rfl
  obtain ⟨da, dc, hdv, -⟩ := GOwn.form h.dn
  obtain ⟨v', w', h1, h2, h3, h4⟩ := run_gapp (P := Tryz.prog) 22 ty 33 i0 _ 1 24 Tryz.underlying22 hi hz0 hz1 hz2 rfl av vs.length _ h0 _ 1 [dv] hsr (by
    intro u hu
    simp at hu
    subst hu
    rw [hdv]; rfl) (by simp only [maxLen]; omega) (by omega)
  have hgl : g < w.heap.size := (Array.getElem?_eq_some_iff.1 h.lg).1
  have hbs := h.i.be.size
  have hsz := h3.size
  simp only [World.size_alloc] at hsz
  have keep : ∀ k, k < w.heap.size → some k ≠ av.ownBlock → w'.heap[k]? = w.heap[k]? := fun k hk hq => (h3.block k (by simp; omega) hq).trans (Below.heap_alloc _ _ _ hk)
  have hv' : ∀ k, v'.ownBlock = some k → av.ownBlock = some k ∨ (w.heap.size ≤ k ∧ k < w'.heap.size) := fun k hk => by
    rcases h4 k hk with q | q
    · exact .inl q
    · exact .inr ⟨by have := q.1; simp at this; omega, q.2⟩
  have hdK : ∀ k, dv.ownBlock = some k → w'.heap[k]? = w.heap[k]? := fun k hk => keep k (h.dk k hk).2.2.2.2.1 (fun e => (h.dk k hk).2.2.1 e.symm)
  refine ⟨v', w', h1, s, sy, fun k => X k ∨ dv.ownBlock = some k, ⟨h.i.fs.keep (fun k hk => keep k (h.i.fs.lt k hk) (fun e => (h.i.ak k e.symm).1 hk)) (by omega), h.i.lo, fun k hk => ?_, by simp [hvl], fun i a b => ?_, ?_, fun k hk => ?_, (h.i.be.alloc hbs _).grown h3 (by simp; omega) (fun k hk => (h.i.ak k hk).2.2.1)⟩, (keep g hgl (fun e => h.ag e.symm)).trans h.lg, h.go, r1, r2, r3.snoc r4 r5 hl⟩
  · rcases hk with q | q
    · have := h.i.xo k q; exact ⟨this.1, by omega⟩
    · have := h.dk k q; exact ⟨this.1, by omega⟩
  · rw [snoc_at]
    by_cases hj : i < Ds.length
    · rw [List.getElem_append_left (by omega), dif_pos hj]
      obtain ⟨z1, z2⟩ := h.i.ro i hj (by omega)
      exact ⟨z1.keep fun k q => keep k (h.i.xo k (z2 k q)).2 (fun e => (h.i.ak k e.symm).2.1 (z2 k q)), fun k q => .inl (z2 k q)⟩
    · have hi2 : i = vs.length := by simp at b; omega
      rw [List.getElem_append_right (by omega), dif_neg hj]
      simp only [hi2, Nat.sub_self, List.getElem_cons_zero]
      exact ⟨h.dn.keep fun k q => hdK k q, fun k q => .inr q⟩
  · rw [List.length_append]; exact h2
  · rcases hv' k hk with q | q
    · have := h.i.ak k q
      exact ⟨this.1, fun z => z.elim this.2.1 (fun y => (h.dk k y).2.2.1 q), this.2.2.1, by omega⟩
    · exact ⟨fun z => by have := h.i.fs.lt k z; omega, fun z => z.elim (fun y => by have := (h.i.xo k y).2; omega) (fun y => by have := (h.dk k y).2.2.2.2.1; omega), by omega, q.2⟩
/-- Sync. -/
theorem ts_sync {W : World} {p av : Value} {vs : List Value} {Ds : List (List Rc)} {D : List Rc} {g : Nat} {O : Nat → Prop} {w : World} (h : TsQ W p av vs Ds D g O w) : Calls Tryz.prog 10 #[.pointer (some ⟨g, 0, none⟩)] w fun e w' =>
    ∃ E O', e = .returned (.int .i64 E) ∧ ((E = 0 ∧ TsL W p av vs (Ds ++ [D]) O' w') ∨ (E ≠ 0 ∧ TsD W p av vs (Ds ++ [D]) O' w')) := by
  obtain ⟨s, sy, X, h1, h2, h3, h4, h5, h6⟩ := h
  refine (logSync_any h1.fs h2 h3 (nk_len _)).mono ?_
  rintro e w' ⟨rfl, hf, ho⟩
  have hi := h1.onl hf (fun k q => q) ho
  obtain ⟨q1, q2⟩ := seg_sync h4
  refine ⟨_, Grw O w w', rfl, ?_⟩
  by_cases hE : (sfSync s (nk Ds.length)).1 = 0
  · refine .inl ⟨hE, _, _, X, hi, q1 hE, fun j a b => ?_, h6⟩
    show (if j = Ds.length then (cat (wrs D)).length else sy j) = _
    rw [snoc_at]
    by_cases hj : j < Ds.length
    · rw [if_neg (by omega), dif_pos hj]; exact h5 j hj hj
    · rw [if_pos (by simp at a; omega), dif_neg hj]
  · exact .inr ⟨hE, _, sy, X, hi, (q2 hE).j, full_snoc h5, h6⟩
/-- Behind the crash. -/
def TsC (W : World) (p av : Value) (vs : List Value) (Ds : List (List Rc)) (w : World) : Prop := ∃ s O X, TsI W p s av vs Ds O X w ∧ TsR W Ds ∧ ∀ j (h : j < Ds.length), sfLook (nk j) s.dir = some j ∧ ∃ c, (j < Ds.length - 1 → (cat (wrs Ds[j])).length ≤ c) ∧ sfRead s (nk j) = (cat (wrs Ds[j])).take c
theorem ts_crash {W : World} {p av : Value} {vs : List Value} {Ds : List (List Rc)} {O : Nat → Prop} {w : World} (h : TsD W p av vs Ds O w) (n : Int) (kv : Value) (ks : List Int) (hK : KReads W kv ks) : Calls Tryz.prog 11 #[p, .int .i64 n, kv] w fun e w' => e = .returned (.int .i64 0) ∧ TsC W p av vs Ds w' := by
  obtain ⟨s, sy, X, h1, h2, h3, h4⟩ := h
  refine (h1.fs.crash n kv ks (fun w' ho => hK.keepB (fun k _ hl => (h1.be.trans (ho.below h1.be.size h1.lo)).block k hl) (h1.be.trans (ho.below h1.be.size h1.lo)).size)).mono ?_
  rintro e w' ⟨rfl, hf, ho⟩
  refine ⟨rfl, _, _, X, h1.onl hf (fun k q => q) ho, h4, fun j hj => ?_⟩
  obtain ⟨q1, c, q2, q3⟩ := seg_crash h2 h1.fs.1 n ks j hj
  exact ⟨q1, c, fun z => by rw [← h3 j hj z]; exact q2, q3⟩
theorem TsC.below {W : World} {p av : Value} {vs : List Value} {Ds : List (List Rc)} {w w' : World} (h : TsC W p av vs Ds w) (hb : Below w.heap.size w w') : TsC W p av vs Ds w' := by
  obtain ⟨s, O, X, h1, r⟩ := h
  exact ⟨s, O, X, h1.below hb, r⟩
theorem TsC.be {W : World} {p av : Value} {vs : List Value} {Ds : List (List Rc)} {w : World} (h : TsC W p av vs Ds w) : Below W.heap.size W w := by
  obtain ⟨s, O, X, h1, r⟩ := h
  exact h1.be
theorem TsC.al {W : World} {p av : Value} {vs : List Value} {Ds : List (List Rc)} {w : World} (h : TsC W p av vs Ds w) : GOwn w 33 1 av Ds.length vs := by
  obtain ⟨s, O, X, h1, r⟩ := h
  rw [← h1.vl]; exact h1.al
/-- Replay of a segment. -/
theorem ts_replay {W : World} {p av : Value} {vs : List Value} {Ds : List (List Rc)} {w : World} (h : TsC W p av vs Ds w) (j : Nat) (hj : j < Ds.length) (h6 : Ds.length ≤ 6) {D : List Rc} (hD : D = Ds[j]) : Calls Tryz.prog 12 #[p, .int .i64 ((j : Int) + 1)] w fun e w' =>
    ∃ rv R, e = .returned (.tuple #[rv, .int .i64 0]) ∧ RsR w' rv R ∧ R.length ≤ D.length ∧ (j + 1 < Ds.length → R.length = D.length) ∧ R.map Rc.q = (D.take R.length).map Rc.q ∧ Below w.heap.size w w' := by
  subst hD
  obtain ⟨s, O, X, h1, h2, h3⟩ := h
  obtain ⟨q1, c, q2, q3⟩ := h3 j hj
  have hm : Ds[j] ∈ Ds := List.getElem_mem hj
  have hrg := h2.r _ hm
  have hb : ∀ x ∈ Ds[j], ∀ f ∈ x.p, FcB f := fun x hx => (h2.c _ hm x hx).pb
  have hle : (cat (wrs Ds[j])).length ≤ 40000 := by
    have a := cat_len _ hrg
    have b := h2.l _ hm
    omega
  obtain ⟨m, m1, m2, m3, m4⟩ : ∃ m, (j + 1 < Ds.length → m = Ds[j].length) ∧ m ≤ Ds[j].length ∧ fmS ((cat (wrs Ds[j])).take c) = (wrs Ds[j]).take m ∧ rcF (fmS ((cat (wrs Ds[j])).take c)) = (Ds[j].take m).map Rc.q := by
    by_cases hl : j + 1 < Ds.length
    · obtain ⟨m, a, b, c1, d⟩ := whole_cut Ds[j] [] (by rw [List.append_nil]; exact hrg) (by rw [List.append_nil]; exact hb) c (q2 (by omega))
      rw [List.append_nil] at b c1 d
      exact ⟨m, fun _ => by omega, b, c1, d⟩
    · obtain ⟨m, a, b, c1, d⟩ := whole_cut [] Ds[j] (by rw [List.nil_append]; exact hrg) (by rw [List.nil_append]; exact hb) c (by simp [wrs, cat])
      rw [List.nil_append] at b c1 d
      exact ⟨m, fun z => absurd z hl, b, c1, d⟩
  refine (replay_any (b := (cat (wrs Ds[j])).take c) h1.fs ((j : Int) + 1) (nk_no (by omega)) (.inl (by omega)) (by show sfFe (sfLook (nk j) s.dir) = 0; rw [q1]; rfl) q3 (by rw [List.length_take]; omega) (fun d hd => by
    rw [m3] at hd
    have := wrs_len hrg d (List.mem_of_mem_take hd)
    omega)).mono ?_
  rintro e w' ⟨rv, R, rfl, hr, _, hq, hb'⟩
  rw [m4] at hq
  have hl : R.length = m := by
    have := congrArg List.length hq
    rw [List.length_map, List.length_map, List.length_take] at this
    omega
  exact ⟨rv, R, rfl, hr, by omega, fun z => by rw [hl]; exact m1 z, by rw [hl]; exact hq, hb'⟩
/-- all[j]. -/
theorem ts_at {W : World} {p : Value} {a0 : Option Addr} {n0 c0 : Nat} {vs : List Value} {Ds : List (List Rc)} {w : World} (h : TsC W p (.slice a0 n0 c0) vs Ds w) (j : Nat) (hj : j < Ds.length) {D : List Rc} (hD : D = Ds[j]) : ∃ ga a cap, a0 = some ⟨ga, 0, none⟩ ∧ ga < w.heap.size ∧ w.cell? ⟨ga, j, none⟩ = some (.slice a D.length cap) ∧ RsR w (.slice a D.length cap) D ∧ D.length ≤ cap := by
  subst hD
  obtain ⟨s, O, X, h1, h2, _⟩ := h
  have hv : j < vs.length := by rw [h1.vl]; exact hj
  obtain ⟨z1, _⟩ := h1.ro j hj hv
  obtain ⟨a, cap, hva, hc, -⟩ := GOwn.form z1
  have hrs : RsR w vs[j] Ds[j] := rsr_of z1 fun x hx => (h2.c _ (List.getElem_mem hj) x hx).below h1.be
  have hcs := @GOwn.cells _ _ _ _ _ _ h1.al
  rcases h1.al.2 with ⟨_, q⟩ | ⟨ga, cap', cur, hq, hg, _⟩
  · omega
  · simp only [Value.slice.injEq] at hq
    obtain ⟨rfl, rfl, rfl⟩ := hq
    have c1 := hcs (g := ga) rfl j vs[j] (List.getElem?_eq_getElem hv)
    have ea : (⟨ga, 0, none⟩ : Addr).add j = ⟨ga, j, none⟩ := by simp [Addr.add]; omega
    rw [ea, hva] at c1
    rw [hva] at hrs
    exact ⟨ga, a, cap, rfl, (Array.getElem?_eq_some_iff.1 hg).1, c1, hrs, hc⟩
end Go.Proofs.YtegcomopcoapjaaGreatDoor
