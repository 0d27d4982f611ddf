/-
  Packed texts: Xl, Xm, Xn, Xo.
-/
import Derived.Test.YtkcnnkakpkdhkaaDoorHA
set_option linter.all false
set_option maxRecDepth 100000
namespace Go.Proofs.YtkcnnkakpkdhkaaDoor

/-! Xl: A line read as a part; parts whose last one may grow. -/
section
open Go.RowKit Go.Sort Go.Shelf
attribute [local go_sem] Oper.semAt_some

theorem mk_knd (x : List UInt8) : (mk (knd x)).length ≤ x.length := by
  unfold knd
  by_cases h1 : x = [45, 45, 45]
  · rw [if_pos h1, h1]; decide
  · rw [if_neg h1]
    by_cases h2 : [61, 32].isPrefixOf x = true
    · rw [if_pos h2]
      rw [List.isPrefixOf_iff_prefix] at h2
      exact h2.length_le
    · rw [if_neg h2]
      by_cases h3 : [45, 32].isPrefixOf x = true
      · rw [if_pos h3]
        rw [List.isPrefixOf_iff_prefix] at h3
        exact h3.length_le
      · rw [if_neg h3]; exact Nat.zero_le _
theorem results_pr {fn : Func} {p : Tmp} (h : fn.results = #[.cell p 41]) (tmps : Array Value) (w : World) (g : Nat) (z : Int × Value) (hp : tmps.getD p undef = .pointer (some ⟨g, 0, none⟩)) (hg : PrAt w g z) :
    (results fn tmps).run Tryd.prog w = .ok (.agg #[.int .i64 z.1, z.2]) w := by
  exact results_cell_row h tmps w g 41 #[.int .i64 z.1, z.2] (0, 0) _ hp hg.row Tryd.underlying41 rfl size41

set_option maxHeartbeats 4000000 in
theorem read26 (w : World) (s : ByteArray) (hs : s.size ≤ 90000) :
    Calls Tryd.prog 26 #[.string s] w fun e w' => ∃ v, e = .returned (.agg #[.int .i64 (rdP s.data.toList).1, v]) ∧ OwnT w' w.heap.size v (rdP s.data.toList).2 ∧ Keeps (fun _ => False) w w' := by
  obtain ⟨l, hl⟩ : ∃ l, s.data.toList = l := ⟨_, rfl⟩
  have hk := fun W => kind40 W s
  rw [hl] at hk ⊢
  obtain ⟨k, hkk⟩ : ∃ k, knd l = k := ⟨_, rfl⟩
  rw [hkk] at hk
  have hm := fun W => mark41 W k
  obtain ⟨M, hM⟩ : ∃ M, bs (mk k) = M := ⟨_, rfl⟩
  rw [hM] at hm
  have hqs : M.size ≤ s.size := by
    have := mk_knd l
    rw [hkk] at this
    rw [← hM, bs_size, ← sz_len, hl]; exact this
  have hw := fun W => pwords19 W (s.extract M.size s.size) (by rw [ext_sz]; omega)
  rw [ext_drop, hl] at hw
  obtain ⟨ws, hws⟩ : ∃ ws, wds (l.drop M.size) = ws := ⟨_, rfl⟩
  rw [hws] at hw
  have HR : Hid (rdP l = (k, ws)) := by
    show _ = _
    unfold rdP
    rw [hkk, ← hws, ← hM, bs_size]
  rw [HR.out]
  simp only
  have hq0 : (0 : Int) ≤ (M.size : Int) := by omega
  have hq1 : (M.size : Int) ≤ (s.size : Int) := by omega
  clear hl hkk hM hws hqs
  go_enter Tryd.func26, Tryd.ntmps26
  go_wp2_with (first
    | (have hh := y5; clear y5; refine wpList_store41 rfl _ _ rfl g rfl k a5 n5 c5 rfl _ r4 ?_; intro w6 r6 k6)
    | (have hh := y4; clear y4; refine wpList_bP rfl _ _ rfl k a5 n5 c5 rfl rfl ?_; have y5 : Hid True := trivial)
    | (have hh := y3; clear y3; go_at_call 19; refine (hw _).mono ?_; rintro e w4 ⟨⟨v4, rfl, o4⟩, k4⟩; have r4 := (⟨k4.row r1.row (fun h => h)⟩ : PrAt w4 g _); obtain ⟨a5, n5, c5, rfl⟩ := o4.shape; have y4 : Hid True := trivial)
    | (have hh := y2; clear y2; go_at_call 41; refine (hm _).mono ?_; rintro e w' ⟨rfl, rfl⟩; have y3 : Hid True := trivial)
    | (have hh := y1; clear y1; go_at_call 40; refine (hk _).mono ?_; rintro e w' ⟨rfl, rfl⟩; have y2 : Hid True := trivial)
    | (refine wpList_alloc41 rfl rfl ?_; intro g w1 r1 z1 k1; have y1 : Hid True := trivial))
  refine bodyPost_ret (results_pr rfl _ _ g _ rfl r6) rfl ?_
  have lt := lt_of_row r1.row
  refine ⟨_, rfl, ?_, (k1.trans k4).trans' k6 (fun i e => .inr (by omega))⟩
  exact (o4.keeps k6 (fun i _ e => by omega)).down (by have := k1.size; omega)
end

/-! Xm: Parts whose last one may grow in place; where Parse stands. -/
section
open Go.RowKit Go.Sort Go.Shelf
attribute [local go_sem] Oper.semAt_some

theorem OwnP.kpx {S : Nat → Prop} {w w' : World} {base : Nat} {v : Value} {l : List (Int × Value)} (h : OwnP w base v l) (hk : KpX S w w') (hS : ∀ i cs fr, v.ownBlock = some i → w.heap[i]? = some (.cells cs 41 fr) → ¬ S i) : OwnP w' base v l := by
  obtain ⟨h1, h2⟩ := h.owns
  refine ⟨⟨h1, ?_⟩⟩
  rcases h2 with h2 | ⟨g, cap, cur, rfl, hb, hg, rest⟩
  · exact .inl h2
  · exact .inr ⟨g, cap, cur, rfl, hb, hk.2 g _ _ _ hg (hS g _ _ rfl hg), rest⟩
theorem OwnT.kpx {S : Nat → Prop} {w w' : World} {base : Nat} {v : Value} {l : List (List UInt8)} (h : OwnT w base v l) (hk : KpX S w w') (hS : ∀ i, v.ownBlock = some i → ¬ S i) : OwnT w' base v l := by
  obtain ⟨h1, h2⟩ := h.owns
  refine ⟨⟨h1, ?_⟩⟩
  rcases h2 with h2 | ⟨g, cap, cur, rfl, hb, hg, rest⟩
  · exact .inl h2
  · exact .inr ⟨g, cap, cur, rfl, hb, hk.2 g _ _ _ hg (hS g rfl), rest⟩
theorem Wd.kpx {S : Nat → Prop} {w w' : World} {v : Value} {ws : List (List UInt8)} (h : Wd w v ws) (hk : KpX S w w') (hS : ∀ b cs fr, v.ownBlock = some b → w.heap[b]? = some (.cells cs 9 fr) → ¬ S b) : Wd w' v ws := by
  obtain ⟨a, n, c, rfl, hs, hn, hb⟩ := h.out
  refine ⟨a, n, c, rfl, ⟨hs.len, hs.cap, fun j x hx => ?_⟩, hn, fun b o e => ?_⟩
  · obtain ⟨b, o, e, hc⟩ := hs.at_ j x hx
    obtain ⟨cs, fr, h1⟩ := hb b o e
    exact ⟨b, o, e, hk.cell hc (hS b cs fr (by rw [e]; rfl) h1)⟩
  · obtain ⟨cs, fr, h1⟩ := hb b o e
    exact ⟨cs, fr, hk.2 b _ _ _ h1 (hS b cs fr (by rw [e]; rfl) h1)⟩
theorem AllW.kpx {S : Nat → Prop} {w w' : World} {l : List (Int × Value)} {P : List Pt} (h : AllW w l P) (hk : KpX S w w') (hS : ∀ x ∈ l, ∀ b cs fr, x.2.ownBlock = some b → w.heap[b]? = some (.cells cs 9 fr) → ¬ S b) : AllW w' l P :=
  ⟨h.len, fun j x p hx hp => ⟨(h.at_ j x p hx hp).1, (h.at_ j x p hx hp).2.kpx hk (hS x (List.mem_of_getElem? hx))⟩⟩
theorem OwnP.down {W : World} {base b' : Nat} {v : Value} {l : List (Int × Value)} (h : OwnP W base v l) (hb : b' ≤ base) : OwnP W b' v l := by
  obtain ⟨h1, h2⟩ := h.owns
  refine ⟨⟨h1, ?_⟩⟩
  rcases h2 with h2 | ⟨g, cap, cur, rfl, hb2, rest⟩
  · exact .inl h2
  · exact .inr ⟨g, cap, cur, rfl, by omega, rest⟩
theorem OwnP.shape {W : World} {base : Nat} {v : Value} {l : List (Int × Value)} (h : OwnP W base v l) : ∃ a n c, v = .slice a n c := by
  obtain ⟨h1, h2⟩ := h.owns
  rcases h2 with ⟨rfl, _⟩ | ⟨g, cap, cur, rfl, _⟩
  · exact ⟨_, _, _, rfl⟩
  · exact ⟨_, _, _, rfl⟩
theorem OwnP.cells {W : World} {base : Nat} {v : Value} {l : List (Int × Value)} (h : OwnP W base v l) {k : Nat} (e : v.ownBlock = some k) : ∃ cs t fr, W.heap[k]? = some (.cells cs t fr) := by
  obtain ⟨h1, h2⟩ := h.owns
  rcases h2 with ⟨rfl, _⟩ | ⟨g, cap, cur, rfl, hb, hgr, rest⟩
  · cases e
  · cases e; exact ⟨_, _, _, hgr⟩
theorem OwnP.is41 {W : World} {base : Nat} {v : Value} {l : List (Int × Value)} (h : OwnP W base v l) {k : Nat} (e : v.ownBlock = some k) : ∃ cs fr, W.heap[k]? = some (.cells cs 41 fr) := by
  obtain ⟨h1, h2⟩ := h.owns
  rcases h2 with ⟨rfl, _⟩ | ⟨g, cap, cur, rfl, hb, hgr, rest⟩
  · cases e
  · cases e; exact ⟨_, _, hgr⟩

theorem OwnT.is9 {W : World} {base : Nat} {v : Value} {l : List (List UInt8)} (h : OwnT W base v l) {k : Nat} (e : v.ownBlock = some k) : ∃ cs fr, W.heap[k]? = some (.cells cs 9 fr) := by
  obtain ⟨h1, h2⟩ := h.owns
  rcases h2 with ⟨rfl, _⟩ | ⟨g, cap, cur, rfl, hb, hgr, rest⟩
  · cases e
  · cases e; exact ⟨_, _, hgr⟩

/-- Parts in rows of one's own from B on; the last one's words are alone in theirs. -/
def Lst (V : World) (B : Nat) (v : Value) (P : List Pt) : Prop :=
  (P = [] ∧ OwnP V B v []) ∨ ∃ (Q : List Pt) (k : Int) (ws : List (List UInt8)) (lq : List (Int × Value)) (u : Value) (Bu : Nat), P = Q ++ [(k, ws)] ∧ OwnP V B v (lq ++ [(k, u)]) ∧ AllW V lq Q ∧ OwnT V Bu u ws ∧ (∀ x ∈ lq, ∀ b, x.2.ownBlock = some b → B ≤ b ∧ b < Bu) ∧ B ≤ Bu ∧ Bu ≤ V.heap.size
theorem Lst.kpx {S : Nat → Prop} {V V' : World} {B : Nat} {v : Value} {P : List Pt} (h : Lst V B v P) (hk : KpX S V V') (hS : ∀ i, B ≤ i → ¬ S i) : Lst V' B v P := by
  rcases h with ⟨h1, h2⟩ | ⟨Q, k, ws, lq, u, Bu, h1, h2, h3, h4, h5, h6, h7⟩
  · exact .inl ⟨h1, h2.kpx hk (fun i _ _ e _ => hS i (h2.from e).1)⟩
  · refine .inr ⟨Q, k, ws, lq, u, Bu, h1, h2.kpx hk (fun i _ _ e _ => hS i (h2.from e).1), h3.kpx hk (fun x hx b _ _ e _ => hS b (h5 x hx b e).1), h4.kpx hk (fun i e => hS i (by have := (h4.from e).1; omega)), h5, h6, Nat.le_trans h7 hk.1⟩
/-- All of them, to read. -/
theorem Lst.all {V : World} {B : Nat} {v : Value} {P : List Pt} (h : Lst V B v P) : ∃ l, OwnP V B v l ∧ AllW V l P ∧ ∀ x ∈ l, ∀ b, x.2.ownBlock = some b → B ≤ b ∧ b < V.heap.size := by
  rcases h with ⟨rfl, h2⟩ | ⟨Q, k, ws, lq, u, Bu, rfl, h2, h3, h4, h5, h6, h7⟩
  · exact ⟨[], h2, AllW.nil _, fun x hx => by cases hx⟩
  · refine ⟨_, h2, h3.snoc h4.wd, fun x hx b e => ?_⟩
    rcases List.mem_append.1 hx with hx | hx
    · have := h5 x hx b e
      exact ⟨this.1, by omega⟩
    · obtain rfl : x = (k, u) := by simpa using hx
      have := h4.from e
      exact ⟨by omega, this.2⟩
theorem Lst.shape {V : World} {B : Nat} {v : Value} {P : List Pt} (h : Lst V B v P) : ∃ a n c, v = .slice a n c := by
  obtain ⟨l, h1, _⟩ := h.all
  exact h1.shape


theorem linesP_cons (x : List UInt8) (r : List (List UInt8)) (st : List Pt × Bool) : linesP (x :: r) st = (match stepP st x with | none => none | some st' => linesP r st') := rfl
theorem linesP_app : ∀ (a b : List (List UInt8)) (st : List Pt × Bool), linesP (a ++ b) st = (match linesP a st with | none => none | some st' => linesP b st')
  | [], b, st => rfl
  | x :: a, b, st => by
    rw [List.cons_append, linesP_cons, linesP_cons]
    cases stepP st x with
    | none => rfl
    | some st' => exact linesP_app a b st'
theorem linesP_snoc {a : List (List UInt8)} {x : List UInt8} {st st' st2 : List Pt × Bool} (h : linesP a st = some st') (h2 : stepP st' x = some st2) : linesP (a ++ [x]) st = some st2 := by
  rw [linesP_app, h]
  show (match stepP st' x with | none => none | some st' => linesP [] st') = _
  rw [h2]; rfl
theorem linesP_stop {a r : List (List UInt8)} {x : List UInt8} {st st' : List Pt × Bool} (h : linesP a st = some st') (h2 : stepP st' x = none) : linesP (a ++ x :: r) st = none := by
  rw [linesP_app, h]
  show (match stepP st' x with | none => none | some st' => linesP r st') = _
  rw [h2]

theorem results_cc {fn : Func} {p q : Tmp} {t1 t2 : TypeId} (h : fn.results = #[.cell p t1, .cell q t2]) (ha : ∀ w, (isAgg t1).run Tryd.prog w = .ok false w) (hb : ∀ w, (isAgg t2).run Tryd.prog w = .ok false w) (tmps : Array Value) (w : World) (g1 g2 : Nat) (u v : Value)
    (hp : tmps.getD p undef = .pointer (some ⟨g1, 0, none⟩)) (hq : tmps.getD q undef = .pointer (some ⟨g2, 0, none⟩)) (c1 : Ce w g1 t1 u) (c2 : Ce w g2 t2 v) : (results fn tmps).run Tryd.prog w = .ok (.tuple #[u, v]) w := by
  have hp' : tmps[p]?.getD undef = .pointer (some ⟨g1, 0, none⟩) := by simpa using hp
  have hq' : tmps[q]?.getD undef = .pointer (some ⟨g2, 0, none⟩) := by simpa using hq
  simp [results, h, hp', hq', asAddr, load_ce ha c1, load_ce hb c2]
theorem zeroP22 : ∀ w, (zeroValue 22).run Tryd.prog w = .ok (.slice none 0 0) w := fun _ => by kernel_rfl
theorem zeroE25 : ∀ w, (zeroValue 25).run Tryd.prog w = .ok (.int .i64 0) w := fun _ => by kernel_rfl

/-- Where Parse stands, behind the lines pre. -/
structure PrI (w w5 : World) (gr ge gl go : Nat) (pre : List (List UInt8)) (V : World) : Prop where
  out : ∃ (st : List Pt × Bool) (v : Value), linesP pre ([], false) = some st ∧ Ce V gl 22 v ∧ Ce V go 4 (.bool st.2) ∧ Lst V w5.heap.size v st.1 ∧ (st.2 = true → st.1 ≠ []) ∧ st.1.length ≤ pre.length ∧ (∀ p ∈ st.1, p.2.length ≤ 241 * pre.length)
  cr : Ce V gr 22 (.slice none 0 0)
  ce : Ce V ge 25 (.int .i64 0)
  keep : Keeps (fun _ => False) w V
  size : w5.heap.size ≤ V.heap.size
theorem PrI.kpx {S : Nat → Prop} {w w5 : World} {gr ge gl go : Nat} {pre : List (List UInt8)} {V V' : World} (h : PrI w w5 gr ge gl go pre V) (hk : KpX S V V') (hw : Keeps (fun _ => False) w V') (h1 : ¬ S gr) (h2 : ¬ S ge) (h3 : ¬ S gl) (h4 : ¬ S go) (h5 : ∀ i, w5.heap.size ≤ i → ¬ S i) : PrI w w5 gr ge gl go pre V' := by
  obtain ⟨st, v, e1, e2, e3, e4, e5⟩ := h.out
  exact ⟨⟨st, v, e1, e2.kpx hk h3, e3.kpx hk h4, e4.kpx hk h5, e5⟩, h.cr.kpx hk h1, h.ce.kpx hk h2, hw, Nat.le_trans h.size hk.1⟩
/-- Where it stops with an error. -/
structure PrX (w : World) (gr ge : Nat) (XS : List (List UInt8)) (V : World) : Prop where
  no : linesP XS ([], false) = none
  cr : Ce V gr 22 (.slice none 0 0)
  ce : Ce V ge 25 (.int .i64 15)
  keep : Keeps (fun _ => False) w V

/-- A world in which one cell is known. -/
structure CellW (a : Addr) (z : Value) where
  w : World
  h : w.cell? a = some z

theorem lines25 (w : World) (s : ByteArray) : Calls Tryd.prog 25 #[.string s] w fun e w' =>
    e = .returned (.func (.func 57) #[] #[.pointer (some ⟨w.heap.size + 1, 0, none⟩), .pointer (some ⟨w.heap.size, 0, none⟩), .pointer (some ⟨w.heap.size + 2, 0, none⟩)]) ∧ Spl w' w.heap.size (w.heap.size + 1) (w.heap.size + 2) ⟨#[10]⟩ s ∧ w'.heap.size = w.heap.size + 3 ∧ Keeps (fun _ => False) w w' := by
  go_enter Tryd.func25, Tryd.ntmps25
  go_wp2_with (go_at_call 39; refine (split39 w s ⟨#[10]⟩).mono ?_; rintro e w' ⟨rfl, h1, h2, h3⟩)
  go_ret
  exact ⟨rfl, h1, h2, h3⟩
end

/-! Xn: The program's Parse, of a text that may be. -/
section
open Go.RowKit Go.Sort Go.Shelf
attribute [local go_sem] Oper.semAt_some

set_option maxHeartbeats 16000000 in
theorem pparse_core (w : World) (hT : Lib.Utf8Tabs 0 1 w) (s : ByteArray) (hs : s.size ≤ 240) (hp : pln true s.data.toList = true) :
    Calls Tryd.prog 10 #[.string s] w fun e w' => (∃ v, e = .returned (.tuple #[v, .int .i64 (parseL s.data.toList).2]) ∧ ∃ l, OwnP w' w.heap.size v l ∧ AllW w' l (parseL s.data.toList).1) ∧ Keeps (fun _ => False) w w' := by
  obtain ⟨XS, hXS⟩ : ∃ XS, cutL 10 s.data.toList = XS := ⟨_, rfl⟩
  have hv : vd s.data.toList = true := by unfold pln at hp; simp only [Bool.and_eq_true] at hp; exact hp.1
  have hval := fun W (hW : Lib.Utf8Tabs 0 1 W) => valid11 W hW s (by omega)
  have hstr := fun W => contains_strg W s hv
  rw [hv] at hval
  rw [hp] at hstr
  obtain ⟨PR, hPR⟩ : ∃ PR, parseL s.data.toList = PR := ⟨_, rfl⟩
  have HP : Hid (PR = resP (linesP XS ([], false))) := by
    show _ = _
    rw [← hPR]; unfold parseL
    rw [if_neg (by rw [sz_len]; omega), if_neg (by rw [hp]; simp), hXS]
  have HL : Hid (XS.length ≤ 241 ∧ ∀ x ∈ XS, x.length ≤ 240) := by
    have h1 := cutL_len 10 s.data.toList
    rw [hXS, sz_len] at h1
    exact ⟨by omega, fun x hx => by have := h1.2 x hx; omega⟩
  rw [hPR]
  have g1 : ¬ (240 : Int) < (s.size : Int) := by omega
  have HXS := Hid.mk' hXS
  have Hs := Hid.mk' hs
  clear hp hv hPR hXS hs
  refine (callsIn_wide (n := 9)).1 ?_
  refine callsIn_of_wp_marks Tryd.func10 rfl trivial ?_ rfl
  simp only [Tryd.ntmps10, List.size_toArray, List.length_cons, List.length_nil, Nat.reduceAdd, Nat.reduceSub, Array.replicate_succ, Array.replicate_zero, List.push_toArray, List.append_toArray, List.nil_append, List.cons_append]
  gi_wp2_with (first
    | (have hh := y6; clear y6; refine ⟨trivial, ?_⟩; gi_at_call 25; refine (callsIn_wide.2 (lines25 _ s)).mono ?_; rintro e w7 ⟨rfl, hsp, hsz, k7⟩)
    | (have hh := y5; clear y5; refine wpListIn_allocC 4 (.bool false) zero4 rfl rfl rfl ?_; intro go w6 c6 z6 k6; have f6 := c6.live; have q6 := c6.cell; have y6 : Hid True := trivial)
    | (have hh := y4; clear y4; refine wpListIn_allocC 22 (.slice none 0 0) zeroP22 rfl rfl rfl ?_; intro gl w5 c5 z5 k5; have y5 : Hid True := trivial)
    | (have hh := y3; clear y3; refine ⟨trivial, ?_⟩; gi_at_call 23; refine (callsIn_wide.2 (hstr _)).mono ?_; rintro e w4 ⟨rfl, k4⟩; have y4 : Hid True := trivial)
    | (have hh := y2; clear y2; refine ⟨trivial, ?_⟩; gi_at_call 22; refine (callsIn_wide.2 (hval _ (Tabs.keep (Tabs.keep hT k1) k2))).mono ?_; rintro e w3 ⟨rfl, k3⟩; have y3 : Hid True := trivial)
    | (have hh := y1; clear y1; refine wpListIn_allocC 25 (.int .i64 0) zeroE25 rfl rfl rfl ?_; intro ge w2 c2 z2 k2; have y2 : Hid True := trivial)
    | (refine wpListIn_allocC 22 (.slice none 0 0) zeroP22 rfl rfl rfl ?_; intro gr w1 c1 z1 k1; have y1 : Hid True := trivial))
  have k6' : Keeps (fun _ => False) w5 (w6.setCell ⟨go, 0, none⟩ (.bool false)) := k6.setCell (p := ⟨go, 0, none⟩) (.inr z6) _
  have z7 : (w6.setCell ⟨go, 0, none⟩ (.bool false)).heap.size = w6.heap.size := by simp
  rw [z7] at hsp hsz
  have K : Keeps (fun _ => False) w w7 := (((((k1.trans k2).trans k3).trans k4).trans k5).trans k6').trans k7
  have cr7 : Ce w7 gr 22 (.slice none 0 0) := (((((c1.keep k2).keep k3).keep k4).keep k5).keep k6').keep k7
  have ce7 : Ce w7 ge 25 (.int .i64 0) := ((((c2.keep k3).keep k4).keep k5).keep k6').keep k7
  have cl7 : Ce w7 gl 22 (.slice none 0 0) := (c5.keep k6').keep k7
  have co7 : Ce w7 go 4 (.bool false) := (c6.set (.bool false)).keep k7
  have l1 : gr < ge := by have := c1.lt; omega
  have l2 : ge < gl := by have := c2.lt; have := k3.size; have := k4.size; omega
  have l3 : gl < go := by have := c5.lt; omega
  have l4 : go < w6.heap.size := c6.lt
  have lw : w.heap.size ≤ gr := z1
  obtain ⟨B, hB⟩ : ∃ B, w6.heap.size = B := ⟨_, rfl⟩
  rw [hB] at hsp hsz l4 ⊢
  clear k1 k2 k3 k4 k5 k6 k6' k7 c1 c2 c5 c6 z1 z2 z5 z6 z7 f6 q6 hB hh hval hstr
  clear w1 w2 w3 w4 w5 w6
  have hseq := split57 (fun k => k ≠ B ∧ k ≠ B + 1 ∧ k ≠ B + 2) w7 B (B + 1) (B + 2) s 10 (by have := Hs.out; omega) hsp (by omega) (by omega) (fun h => h.1 rfl) (fun h => h.2.1 rfl) (fun h => h.2.2 rfl)
  rw [HXS.out] at hseq
  refine range_m (gf := 57) (lb := #[.pointer (some ⟨B + 1, 0, none⟩), .pointer (some ⟨B, 0, none⟩), .pointer (some ⟨B + 2, 0, none⟩)]) rfl (enters_of Tryd.func57 (by kernel_rfl) rfl) (bk := B) (by omega) hseq ?hKt ?hKb (RowKit.Below.refl _ _) (fun _ => rfl)
    (fun pre V => PrI w w7 gr ge gl go pre V)
    (fun cd pre V => cd = .ret ∧ PrX w gr ge XS V) ?hI ?hIw ?hIx
    ⟨⟨([], false), _, rfl, cl7, co7, .inl ⟨rfl, OwnP.nil _ _⟩, (fun h => by cases h), Nat.le_refl _, (fun p hp => by cases hp)⟩, cr7, ce7, K, Nat.le_refl _⟩
    (fun pre x a' V => PrI w w7 gr ge gl go pre V ∧ a' = { tmps := #[.string s, undef, .pointer (some ⟨gr, 0, none⟩), .pointer (some ⟨ge, 0, none⟩), .pointer (some ⟨gl, 0, none⟩), .pointer (some ⟨go, 0, none⟩), .string (bs x), undef, undef, .string s, .int .i64 s.size, .bool false, .string s, .bool true, .bool false, .bool false, .string s, .bool false, .bool false, .string s, .func (.func 57) #[] #[.pointer (some ⟨B + 1, 0, none⟩), .pointer (some ⟨B, 0, none⟩), .pointer (some ⟨B + 2, 0, none⟩)], .string (bs x), undef, undef, undef, undef, undef, undef, undef, undef, undef, undef, undef, undef, undef, undef, undef, undef, undef, undef, undef, undef, undef, undef, undef, undef, undef, undef, undef, undef, undef, undef, undef, undef, undef, undef, undef, undef, undef, undef, undef, undef, undef, undef, undef, undef, undef, undef, undef, undef, undef, undef, undef, undef], defers := [] }) ?hAx ?assign ?body ?done ?stop
  case hKt => exact fun h1 h2 => h1.trans h2
  case hKb => exact fun W l o o' _ ho hc => KpX.putObj o' ho hc
  case hI =>
    rintro pre A A' row h hg hr
    exact h.kpx (S := fun _ => False) (grown_kpx hg hr) (own_keeps hg hr h.keep (by omega)) (fun h => h) (fun h => h) (fun h => h) (fun h => h) (fun _ _ h => h)
  case hIw =>
    rintro pre A v h
    exact h.kpx (S := (· = B)) (((Keeps.refl (· = B) A).setCell (p := ⟨B, 0, none⟩) (.inl rfl) v).kpx (fun k e => .inl e)) (h.keep.setCell (p := ⟨B, 0, none⟩) (.inr (by show w.heap.size ≤ B; omega)) v) (by omega) (by omega) (by omega) (by omega) (fun i hi => by omega)
  case hIx =>
    rintro cd pre A A' row ⟨h1, h2⟩ hg hr
    exact ⟨h1, h2.no, ⟨own_cells hg hr h2.cr.row⟩, ⟨own_cells hg hr h2.ce.row⟩, own_keeps hg hr h2.keep (by omega)⟩
  case hAx =>
    rintro pre x a' _ A A' row ⟨h, h5⟩ hg hr
    exact ⟨h.kpx (S := fun _ => False) (grown_kpx hg hr) (own_keeps hg hr h.keep (by omega)) (fun h => h) (fun h => h) (fun h => h) (fun h => h) (fun _ _ h => h), h5⟩
  case assign =>
    rintro l' pre x rest V K' hx h1 hK'
    have HK : Hid (∀ a' W', _ → _ → _ → K' a' W') := hK'
    clear hK' hx
    simp only [encW]
    gi_wp2
    have k0 := Keeps.refl (fun _ => False) V
    exact HK.out _ _ (k0.from (fun _ _ h => h.elim)) (k0.kpx (fun _ h => h.elim)) ⟨h1, rfl⟩
  case body =>
    rintro l' pre x rest a' V hl' hx ⟨hI, rfl⟩
    have hpl : pre.length ≤ 240 := by have := HL.out.1; rw [hx] at this; simp at this; omega
    have hxl : x.length ≤ 240 := HL.out.2 x (by rw [hx]; simp)
    have hrd := fun W => read26 W (bs x) (by rw [bs_size]; omega)
    rw [bs_data] at hrd
    have hst := fun st => stepQ_eq st x
    unfold stepQ at hst
    have hwl : (rdP x).2.length ≤ 241 := by
      have h1 := wds_len (x.drop (mk (knd x)).length)
      rw [List.length_drop] at h1
      show (wds (x.drop (mk (knd x)).length)).length ≤ 241
      omega
    obtain ⟨k, ws, hks⟩ : ∃ k ws, rdP x = (k, ws) := ⟨_, _, rfl⟩
    rw [hks] at hrd hst hwl
    simp only at hrd hst hwl
    obtain ⟨m, hm⟩ : ∃ m, ws.length = m := ⟨_, rfl⟩
    have HM := Hid.mk' hm
    rw [hm] at hwl
    have hws0 : (ws = []) ↔ m = 0 := by rw [← hm]; exact ⟨fun h => by rw [h]; rfl, fun h => List.eq_nil_of_length_eq_zero h⟩
    have HX := Hid.mk' hx
    have HI := Hid.mk' hI
    have HH := Hid.mk' hst
    have hszV := hI.size
    obtain ⟨⟨Pp, ob⟩, v, e1, el, eo, eL, eop, ePl, eWl⟩ := hI.out
    simp only at eo eL eop ePl eWl
    have E1 := Hid.mk' e1
    have EL := Hid.mk' eL
    have EW := Hid.mk' eWl
    have HO := Hid.mk' eop
    have hlV : B + 3 ≤ V.heap.size := by omega
    clear hx hks hm hst e1 eWl eop hI
    obtain ⟨X, hX⟩ : ∃ X, bs x = X := ⟨_, rfl⟩
    rw [hX] at hrd ⊢
    clear hX
    have y0 : Hid True := trivial
    by_cases hk1 : k = 1
    · have t1 : (k == (1 : Int)) = true := by simp [hk1]
      have t4 : (k != (4 : Int)) = true := by simp [hk1]
      by_cases hm0 : m = 0
      · have t2 : ((m : Int) == (0 : Int)) = true := by simp [hm0]
        have Hst : Hid (stepP (Pp, ob) x = some (Pp, false)) := by show _ = _; rw [← HH.out, if_pos ⟨hk1, hws0.2 hm0⟩]
        clear hws0 hk1 hm0 t4
        gi_wp2_with (first
          | (have hh := r9; clear r9; refine in_round (fun _ h => by cases h) ?_; refine wpList_store41 rfl _ _ rfl g7 rfl k a7 m c7 rfl _ hh ?_; intro w10 r10 k10; refine OnlyN.go ?_; clear hh; have q0 : w10.cell? ⟨g7, 0, none⟩ = some (.int .i64 k) := (by rw [cell_of_row w10 g7 0 _ _ _ r10.row]; rfl); have q1 : w10.cell? ⟨g7, 1, none⟩ = some (.slice a7 m c7) := (by rw [cell_of_row w10 g7 1 _ _ _ r10.row]; rfl); have k80 : Keeps (fun _ => False) w8 w10 := k9.trans' k10 (fun i e => .inr (by omega)); have K10 : Keeps (fun _ => False) V w10 := k8.trans k80; have qo := (eo.keep K10).cell; have fo := (eo.keep K10).live)
          | (have hh := y1; clear y1; refine in_round (fun _ h => by cases h) ?_; refine wpList_alloc41 rfl rfl ?_; intro g7 w9 r9 z9 k9; refine OnlyN.go ?_)
          | (have hh := y0; clear y0; refine ⟨trivial, ?_⟩; gi_at_call 26; refine (CallsIn.inRound l' (callsIn_wide.2 (hrd V))).mono ?_; rintro e w8 ⟨u, rfl, ou, k8⟩; obtain ⟨a7, c7, e7, s7, z7, _⟩ := ou.slice2; rw [HM.out] at e7 s7; obtain rfl : u = .slice a7 m c7 := e7; have y1 : Hid True := trivial))
        obtain ⟨W, hW⟩ : ∃ W, w10.setCell ⟨go, 0, none⟩ (.bool false) = W := ⟨_, rfl⟩
        have kA : Keeps (· = go) V W := by rw [← hW]; exact (K10.mono (T := (· = go)) (fun _ _ h => h.elim)).setCell (p := ⟨go, 0, none⟩) (.inl rfl) _
        have cO : Ce W go 4 (.bool false) := by rw [← hW]; exact (eo.keep K10).set _
        rw [hW]
        refine ⟨kA.from (fun i hi e => by omega), kA.kpx (fun i e => .inl ⟨by omega, by omega, by omega⟩), ⟨⟨(Pp, false), v, linesP_snoc E1.out Hst.out, el.keeps kA (by omega), cO, EL.out.kpx (kA.kpx (S := (· = go)) (fun _ e => .inl e)) (fun i hi => by omega), (fun h => by cases h), by simp; omega, (fun p hp => by have := EW.out p hp; simp; omega)⟩, HI.out.cr.keeps kA (by omega), HI.out.ce.keeps kA (by omega), HI.out.keep.trans' kA (fun i e => .inr (by omega)), by have := kA.size; omega⟩⟩
      · have t2 : ((m : Int) == (0 : Int)) = false := by simp; exact hm0
        cases ob with
        | false =>
          have Hst : Hid (stepP (Pp, false) x = some (Pp ++ [(k, ws)], true)) := by show _ = _; rw [← HH.out, if_neg (fun h => hm0 (hws0.1 h.2)), if_neg (fun h => hm0 (hws0.1 h.2)), if_neg (by simp), hk1]; rfl
          clear hws0 hk1 hm0
          obtain ⟨lq, ol, al, lb⟩ := EL.out.all
          obtain ⟨av, nv, cv, rfl⟩ := EL.out.shape
          have hql : lq.length ≤ 100000 := by rw [al.len]; omega
          gi_wp2_with (first
            | (have hh := o12; clear o12; refine in_round (fun _ h => by cases h) ?_; refine wpList_appP rfl _ _ rfl w7.heap.size _ lq rfl hh g12 rfl k a7 m c7 r12 (by omega) (by have := k12.size; have := K10.size; omega) ?_; intro v13 w13 o13 k13; refine OnlyN.go ?_; obtain ⟨av3, nv3, cv3, rfl⟩ := o13.shape; have hne : ∀ i, Value.ownBlock (.slice av nv cv) = some i → B + 3 ≤ i ∧ i < V.heap.size := (fun i e => by have := ol.from e; omega); have l13 := el.keeps ((K10.trans k12).mono (T := fun i => Value.ownBlock (.slice av nv cv) = some i) (fun _ _ h => h.elim) |>.trans k13) (fun e => by have := hne gl e; omega); have p13 := eo.keeps ((K10.trans k12).mono (T := fun i => Value.ownBlock (.slice av nv cv) = some i) (fun _ _ h => h.elim) |>.trans k13) (fun e => by have := hne go e; omega); have r13 : PrAt w13 g7 (k, .slice a7 m c7) := ⟨k13.row (k12.row r10.row (fun h => h)) (fun e => by have := hne g7 e; have := k8.size; omega)⟩; have ql3 := l13.cell; have fl3 := l13.live; have qo3 : ∀ u, (w13.setCell ⟨gl, 0, none⟩ u).cell? ⟨go, 0, none⟩ = some (.bool false) := (fun u => (p13.set_other (by omega) u).cell); have fo3 : ∀ u, (w13.setCell ⟨gl, 0, none⟩ u).frozen? ⟨go, 0, none⟩ = false := (fun u => (p13.set_other (by omega) u).live); have q03 : ∀ u, (w13.setCell ⟨gl, 0, none⟩ u).cell? ⟨g7, 0, none⟩ = some (.int .i64 k) := (fun u => cell_keeps ((Keeps.refl (· = gl) w13).setCell (p := ⟨gl, 0, none⟩) (.inl rfl) u) (by rw [cell_of_row w13 g7 0 _ _ _ r13.row]; rfl) (by show ¬ g7 = gl; have := k8.size; omega)))
            | (have hh := y5; clear y5; refine in_round (fun _ h => by cases h) ?_; refine wpList_build1P rfl _ rfl k a7 m c7 rfl ?_; intro g12 w12 r12 z12 k12; refine OnlyN.go ?_; have o12 := ol10.keep k12)
            | (have hh := y4; clear y4; refine in_round (fun _ h => by cases h) ?_; refine wpList_load41 rfl _ rfl g7 0 rfl _ _ q0 q1 ?_; refine OnlyN.go ?_; have y5 : Hid True := trivial)
            | (have hh := r9; clear r9; refine in_round (fun _ h => by cases h) ?_; refine wpList_store41 rfl _ _ rfl g7 rfl k a7 m c7 rfl _ hh ?_; intro w10 r10 k10; refine OnlyN.go ?_; clear hh; have q0 : w10.cell? ⟨g7, 0, none⟩ = some (.int .i64 k) := (by rw [cell_of_row w10 g7 0 _ _ _ r10.row]; rfl); have q1 : w10.cell? ⟨g7, 1, none⟩ = some (.slice a7 m c7) := (by rw [cell_of_row w10 g7 1 _ _ _ r10.row]; rfl); have k80 : Keeps (fun _ => False) w8 w10 := k9.trans' k10 (fun i e => .inr (by omega)); have K10 : Keeps (fun _ => False) V w10 := k8.trans k80; have ql := (el.keep K10).cell; have fl := (el.keep K10).live; have qo0 := (eo.keep K10).cell; have ol10 := ol.keep K10; have y4 : Hid True := trivial)
            | (have hh := y1; clear y1; refine in_round (fun _ h => by cases h) ?_; refine wpList_alloc41 rfl rfl ?_; intro g7 w9 r9 z9 k9; refine OnlyN.go ?_)
            | (have hh := y0; clear y0; refine ⟨trivial, ?_⟩; gi_at_call 26; refine (CallsIn.inRound l' (callsIn_wide.2 (hrd V))).mono ?_; rintro e w8 ⟨u, rfl, ou, k8⟩; obtain ⟨a7, c7, e7, s7, z7, _⟩ := ou.slice2; rw [HM.out] at e7 s7; obtain rfl : u = .slice a7 m c7 := e7; have y1 : Hid True := trivial))
          obtain ⟨W, hW⟩ : ∃ W, (w13.setCell ⟨gl, 0, none⟩ (.slice av3 nv3 cv3)).setCell ⟨go, 0, none⟩ (.bool true) = W := ⟨_, rfl⟩
          have kS : Keeps (fun i => i = gl ∨ i = go) w13 W := by rw [← hW]; exact ((Keeps.refl (fun i => i = gl ∨ i = go) w13).setCell (p := ⟨gl, 0, none⟩) (.inl (.inl rfl)) _).setCell (p := ⟨go, 0, none⟩) (.inl (.inr rfl)) _
          have k8W : Keeps (fun i => (i = gl ∨ i = go) ∨ Value.ownBlock (.slice av nv cv) = some i) w8 W := (((k80.trans k12).mono (fun _ _ h => h.elim)).trans (k13.mono (fun _ _ h => .inr h))).trans (kS.mono (fun _ _ h => .inl h))
          have kA : Keeps (fun i => (i = gl ∨ i = go) ∨ Value.ownBlock (.slice av nv cv) = some i) V W := (k8.mono (fun _ _ h => h.elim)).trans k8W
          have cL : Ce W gl 22 (.slice av3 nv3 cv3) := by rw [← hW]; exact (l13.set _).set_other (by omega) _
          have cO : Ce W go 4 (.bool true) := by rw [← hW]; exact (p13.set_other (by omega) _).set _
          rw [hW]
          refine ⟨kA.from (fun i hi e => ?_), kA.kpx (fun i e => .inl ?_), ⟨⟨(Pp ++ [(k, ws)], true), _, linesP_snoc E1.out Hst.out, cL, cO, .inr ⟨Pp, k, ws, lq, .slice a7 m c7, V.heap.size, rfl, ?_, ?_, ?_, lb, hszV, kA.size⟩, (fun _ => by simp), by simp; omega, (fun p hp => ?_)⟩, HI.out.cr.keeps kA ?_, HI.out.ce.keeps kA ?_, HI.out.keep.trans' kA (fun i e => .inr ?_), by have := kA.size; omega⟩⟩
          · rcases e with e | e
            · omega
            · exact ol.cells e
          · rcases e with e | e
            · exact ⟨by omega, by omega, by omega⟩
            · have := hne i e
              exact ⟨by omega, by omega, by omega⟩
          · exact o13.kpx (kS.kpx (S := fun i => i = gl ∨ i = go) (fun i e => .inl e)) (fun i _ _ e _ => by have := (o13.from e).1; omega)
          · refine al.kpx (kA.kpx (S := fun i => (i = gl ∨ i = go) ∨ Value.ownBlock (.slice av nv cv) = some i) (fun i e => .inl e)) (fun z hz b cs fr e h9 hS => ?_)
            have hb := lb z hz b e
            rcases hS with hS | hS
            · omega
            · exact ol.no9 b cs fr h9 hS
          · have := ou.keeps k8W (fun i _ e => by
              rcases e with e | e
              · omega
              · exact (hne i e).2)
            exact this
          · rcases List.mem_append.1 hp with hp | hp
            · have := EW.out p hp; simp; omega
            · obtain rfl : p = (k, ws) := by simpa using hp
              have := HM.out
              simp
              omega
          · rintro (h | h)
            · omega
            · have := hne _ h; omega
          · rintro (h | h)
            · omega
            · have := hne _ h; omega
          · rcases e with e | e
            · omega
            · have := hne i e; omega
        | true =>
          have Hst : Hid (stepP (Pp, true) x = some (addLast Pp ws, true)) := by show _ = _; rw [← HH.out, if_neg (fun h => hm0 (hws0.1 h.2)), if_neg (fun h => hm0 (hws0.1 h.2)), if_pos ⟨hk1, rfl⟩]
          clear hws0 hk1 hm0
          have hPne := HO.out rfl
          obtain ⟨Q, kq, wq, lq, uq, Bu, rfl, oP, aQ, oT, lb, hBu, hBV⟩ : ∃ (Q : List Pt) (kq : Int) (wq : List (List UInt8)) (lq : List (Int × Value)) (uq : Value) (Bu : Nat), Pp = Q ++ [(kq, wq)] ∧ OwnP V w7.heap.size v (lq ++ [(kq, uq)]) ∧ AllW V lq Q ∧ OwnT V Bu uq wq ∧ (∀ x ∈ lq, ∀ b, x.2.ownBlock = some b → w7.heap.size ≤ b ∧ b < Bu) ∧ w7.heap.size ≤ Bu ∧ Bu ≤ V.heap.size := by
            rcases EL.out with ⟨h, _⟩ | h
            · exact absurd h hPne
            · exact h
          obtain ⟨g0, N0, cap0, rfl, hN0, hbg, ⟨cs0, hg0⟩, hcell, hset⟩ := oP.last
          obtain ⟨m0, hm0⟩ : ∃ m0, lq.length = m0 := ⟨_, rfl⟩
          have hN1 : (N0 : Int) - 1 = (m0 : Int) := by omega
          have hm1' : (m0 : Int) < (N0 : Int) := by omega
          have hm0' : (0 : Int) ≤ (m0 : Int) := by omega
          have hms : m0 ≤ 241 := by have := aQ.len; simp at ePl; omega
          have hm1 : m0 < N0 := by omega
          rw [hm0] at hcell hset
          have hwq : wq.length ≤ 60000 := by have := EW.out (kq, wq) (by simp); simp only at this; omega
          have Hset := Hid.mk' hset
          have Hg0 := Hid.mk' hg0
          have HQ := Hid.mk' aQ
          have HoP := Hid.mk' oP
          have Hst2 : Hid (stepP (Q ++ [(kq, wq)], true) x = some (Q ++ [(kq, wq ++ ws)], true)) := by
            show _ = _
            rw [Hst.out]
            unfold addLast
            rw [List.dropLast_concat]
            simp
          clear hset hg0 hm0 hN0 hPne aQ oP Hst EL HO
          gi_wp2_with (first
            | (have hh := r9; clear r9; refine in_round (fun _ h => by cases h) ?_; refine wpList_store41 rfl _ _ rfl g7 rfl k a7 m c7 rfl _ hh ?_; intro w10 r10 k10; refine OnlyN.go ?_; clear hh; have q0 : w10.cell? ⟨g7, 0, none⟩ = some (.int .i64 k) := (by rw [cell_of_row w10 g7 0 _ _ _ r10.row]; rfl); have q1 : w10.cell? ⟨g7, 1, none⟩ = some (.slice a7 m c7) := (by rw [cell_of_row w10 g7 1 _ _ _ r10.row]; rfl); have k80 : Keeps (fun _ => False) w8 w10 := k9.trans' k10 (fun i e => .inr (by omega)); have K10 : Keeps (fun _ => False) V w10 := k8.trans k80; have ql := (el.keep K10).cell; have qo := (eo.keep K10).cell)
            | (have hh := y1; clear y1; refine in_round (fun _ h => by cases h) ?_; refine wpList_alloc41 rfl rfl ?_; intro g7 w9 r9 z9 k9; refine OnlyN.go ?_)
            | (have hh := y0; clear y0; refine ⟨trivial, ?_⟩; gi_at_call 26; refine (CallsIn.inRound l' (callsIn_wide.2 (hrd V))).mono ?_; rintro e w8 ⟨u, rfl, ou, k8⟩; obtain ⟨a7, c7, e7, s7, z7, _⟩ := ou.slice2; rw [HM.out] at e7 s7; obtain rfl : u = .slice a7 m c7 := e7; have y1 : Hid True := trivial))
          have hcell10 := cell_keeps K10 hcell (fun h => h)
          have hfr0 : ∀ W : World, W.heap[g0]? = V.heap[g0]? → W.frozen? ⟨g0, m0 * 2 + 1, none⟩ = false := fun W hW => frozen_of_row W g0 _ _ _ (hW.trans Hg0.out)
          have hg0V : g0 < V.heap.size := lt_of_row Hg0.out
          have kd : Keeps (fun _ => False) w10 w10.drew := (Keeps.refl _ _).drew
          have hcd := cell_keeps kd hcell10 (fun h => h)
          have ne0 : Nonempty (CellW ⟨g7, 1, none⟩ (.slice a7 m c7)) := ⟨⟨w10, q1⟩⟩
          have hcw : ∀ q : CellW ⟨g7, 1, none⟩ (.slice a7 m c7), q.w.cell? ⟨g7, 1, none⟩ = some (.slice a7 m c7) := fun q => q.h
          have s10 := s7.keep (k80.trans kd)
          have oT10 := oT.keeps (K10.trans kd) (fun _ _ h => h.elim)
          refine region_plan_round (S := fun w' => ∃ q : CellW ⟨g7, 1, none⟩ (.slice a7 m c7), w' = q.w) [([0, 1, 5, 6], 2), ([3], 4), ([], 7), ([], 8), ([9], 10)] [] (by kernel_rfl) (by kernel_rfl) (by kernel_rfl) (by kernel_rfl) (by kernel_rfl) (by rintro ⟨_, _, h⟩; exact h) ⟨⟨_, cell_keeps kd q1 (fun h => h)⟩, rfl⟩ ?_
          simp only [wpPlan, opsAt, pick]
          repeat (go_big_quiet_step (fail))
          refine wpQuiet_nil ?_
          go_wp2_with fail
          refine ⟨⟨⟨_, cell_keeps kd q1 (fun h => h)⟩, rfl⟩, ?_⟩
          simp only [wpPlan, opsAt, pick]
          repeat (go_big_quiet_step (fail))
          refine wpQuiet_nil ?_
          go_wp2_with fail
          refine ⟨⟨⟨_, cell_keeps kd q1 (fun h => h)⟩, rfl⟩, ?_⟩
          simp only [wpPlan, opsAt, pick]
          repeat (go_big_quiet_step (fail))
          refine wpQuiet_nil ?_
          go_wp2_with (refine wpList_appTs rfl _ _ rfl Bu _ wq rfl oT10 a7 m c7 ws rfl s10 z7 (by omega) (by have := (K10.trans kd).size; omega) ?_; intro v11 w11 o11 k11; obtain ⟨a11, n11, c11, rfl⟩ := o11.shape)
          have hnb : ∀ i, uq.ownBlock = some i → Bu ≤ i ∧ i < V.heap.size := fun i e => oT.from e
          have q11 := cell_keeps k11 (cell_keeps kd q1 (fun h => h)) (fun e => by have := hnb g7 e; have := k8.size; omega)
          refine ⟨⟨⟨_, q11⟩, rfl⟩, ?_⟩
          simp only [wpPlan, opsAt, pick]
          repeat (go_big_quiet_step (fail))
          refine wpQuiet_nil ?_
          go_wp2_with fail
          refine ⟨⟨⟨_, q11⟩, rfl⟩, ?_⟩
          simp only [wpPlan, opsAt, pick]
          repeat (go_big_quiet_step (fail))
          refine wpQuiet_nil ?_
          have kV11 : Keeps (fun i => uq.ownBlock = some i) V w11 := ((K10.trans kd).mono (fun _ _ h => h.elim)).trans k11
          have hng : ¬ uq.ownBlock = some g0 := fun e => by
            obtain ⟨cs9, fr9, h9⟩ : ∃ cs fr, V.heap[g0]? = some (.cells cs 9 fr) := by
              obtain ⟨_, h2⟩ := oT.owns
              rcases h2 with ⟨rfl, _⟩ | ⟨g, cap, cur, rfl, hb, hgr, rest⟩
              · cases e
              · cases e; exact ⟨_, _, hgr⟩
            rw [Hg0.out] at h9
            simp at h9
          have hgw : w11.heap[g0]? = V.heap[g0]? := kV11.block g0 hg0V hng
          have hfr11 := hfr0 w11 hgw
          have hc11 := cell_keeps kV11 hcell hng
          have Hgw := Hid.mk' hgw
          clear hgw hcell hcell10 hcd hcw
          go_wp2_with fail
          have hq7 : g7 ≠ g0 := by have := k8.size; omega
          obtain ⟨W, hW⟩ : ∃ W, w11.setCell ⟨g0, m0 * 2 + 1, none⟩ (.slice a11 n11 c11) = W := ⟨_, rfl⟩
          have kS : Keeps (· = g0) w11 W := by rw [← hW]; exact (Keeps.refl (· = g0) w11).setCell (p := ⟨g0, m0 * 2 + 1, none⟩) (.inl rfl) _
          rw [hW]
          refine ⟨⟨⟨_, cell_keeps kS q11 hq7⟩, rfl⟩, ?_⟩
          simp only [wpPlan, opsAt, pick]
          repeat (go_big_quiet_step (fail))
          refine wpQuiet_nil ?_
          refine NoPanic.normal ?_
          gi_wp2
          have kA : Keeps (fun i => i = g0 ∨ uq.ownBlock = some i) V W := (kV11.mono (fun _ _ h => .inr h)).trans (kS.mono (fun _ _ h => .inl h))
          have o7 := Hset.out w11 Hgw.out (.slice a11 n11 c11)
          rw [hW] at o7
          refine ⟨kA.from (fun i hi e => ?_), kA.kpx (fun i e => .inl ?_), ⟨⟨(Q ++ [(kq, wq ++ ws)], true), _, linesP_snoc E1.out Hst2.out, el.keeps kA ?_, eo.keeps kA ?_, .inr ⟨Q, kq, wq ++ ws, lq, .slice a11 n11 c11, Bu, rfl, o7, ?_, ?_, lb, hBu, by have := kA.size; omega⟩, (fun _ => by simp), by simp at ePl ⊢; omega, (fun p hp => ?_)⟩, HI.out.cr.keeps kA ?_, HI.out.ce.keeps kA ?_, HI.out.keep.trans' kA (fun i e => .inr ?_), by have := kA.size; omega⟩⟩
          · rcases e with rfl | e
            · exact ⟨_, _, _, Hg0.out⟩
            · exact oT.cells e
          · rcases e with rfl | e
            · exact ⟨by omega, by omega, by omega⟩
            · have := hnb i e
              exact ⟨by omega, by omega, by omega⟩
          · rintro (h | h)
            · omega
            · have := hnb _ h; omega
          · rintro (h | h)
            · omega
            · have := hnb _ h; omega
          · refine HQ.out.kpx (kA.kpx (S := fun i => i = g0 ∨ uq.ownBlock = some i) (fun i e => .inl e)) (fun z hz b cs fr e h9 hS => ?_)
            have hb := lb z hz b e
            rcases hS with rfl | hS
            · rw [Hg0.out] at h9
              simp at h9
            · have := hnb _ hS; omega
          · refine o11.kpx (kS.kpx (S := (· = g0)) (fun i e => .inl e)) (fun i e1 e2 => ?_)
            subst e2
            obtain ⟨cs9, fr9, h9⟩ := o11.is9 e1
            rw [Hgw.out, Hg0.out] at h9
            simp at h9
          · rcases List.mem_append.1 hp with hp | hp
            · have := EW.out p (by simp [hp]); simp; omega
            · obtain rfl : p = (kq, wq ++ ws) := by simpa using hp
              have := HM.out
              have h2 := EW.out (kq, wq) (by simp)
              simp at h2 ⊢
              omega
          · rintro (h | h)
            · omega
            · have := hnb _ h; omega
          · rintro (h | h)
            · omega
            · have := hnb _ h; omega
          · rcases e with rfl | e
            · omega
            · have := hnb i e; omega
    · have t1 : (k == (1 : Int)) = false := by simp [hk1]
      by_cases hm0 : m = 0
      · have t2 : ((m : Int) == (0 : Int)) = true := by simp [hm0]
        by_cases hk4 : k = 4
        · have t4 : (k != (4 : Int)) = false := by simp [hk4]
          have Hst : Hid (stepP (Pp, ob) x = some (Pp ++ [(k, ws)], false)) := by show _ = _; rw [← HH.out, if_neg (fun h => hk1 h.1), if_neg (fun h => h.1 hk4), if_neg (fun h => hk1 h.1), decide_eq_false hk1]
          clear hws0 hk1 hm0 hk4
          obtain ⟨lq, ol, al, lb⟩ := EL.out.all
          obtain ⟨av, nv, cv, rfl⟩ := EL.out.shape
          have hql : lq.length ≤ 100000 := by rw [al.len]; omega
          gi_wp2_with (first
            | (have hh := o12; clear o12; refine in_round (fun _ h => by cases h) ?_; refine wpList_appP rfl _ _ rfl w7.heap.size _ lq rfl hh g12 rfl k a7 m c7 r12 (by omega) (by have := k12.size; have := K10.size; omega) ?_; intro v13 w13 o13 k13; refine OnlyN.go ?_; obtain ⟨av3, nv3, cv3, rfl⟩ := o13.shape; have hne : ∀ i, Value.ownBlock (.slice av nv cv) = some i → B + 3 ≤ i ∧ i < V.heap.size := (fun i e => by have := ol.from e; omega); have l13 := el.keeps ((K10.trans k12).mono (T := fun i => Value.ownBlock (.slice av nv cv) = some i) (fun _ _ h => h.elim) |>.trans k13) (fun e => by have := hne gl e; omega); have p13 := eo.keeps ((K10.trans k12).mono (T := fun i => Value.ownBlock (.slice av nv cv) = some i) (fun _ _ h => h.elim) |>.trans k13) (fun e => by have := hne go e; omega); have r13 : PrAt w13 g7 (k, .slice a7 m c7) := ⟨k13.row (k12.row r10.row (fun h => h)) (fun e => by have := hne g7 e; have := k8.size; omega)⟩; have ql3 := l13.cell; have fl3 := l13.live; have qo3 : ∀ u, (w13.setCell ⟨gl, 0, none⟩ u).cell? ⟨go, 0, none⟩ = some (.bool ob) := (fun u => (p13.set_other (by omega) u).cell); have fo3 : ∀ u, (w13.setCell ⟨gl, 0, none⟩ u).frozen? ⟨go, 0, none⟩ = false := (fun u => (p13.set_other (by omega) u).live); have q03 : ∀ u, (w13.setCell ⟨gl, 0, none⟩ u).cell? ⟨g7, 0, none⟩ = some (.int .i64 k) := (fun u => cell_keeps ((Keeps.refl (· = gl) w13).setCell (p := ⟨gl, 0, none⟩) (.inl rfl) u) (by rw [cell_of_row w13 g7 0 _ _ _ r13.row]; rfl) (by show ¬ g7 = gl; have := k8.size; omega)))
            | (have hh := y5; clear y5; refine in_round (fun _ h => by cases h) ?_; refine wpList_build1P rfl _ rfl k a7 m c7 rfl ?_; intro g12 w12 r12 z12 k12; refine OnlyN.go ?_; have o12 := ol10.keep k12)
            | (have hh := y4; clear y4; refine in_round (fun _ h => by cases h) ?_; refine wpList_load41 rfl _ rfl g7 0 rfl _ _ q0 q1 ?_; refine OnlyN.go ?_; have y5 : Hid True := trivial)
            | (have hh := r9; clear r9; refine in_round (fun _ h => by cases h) ?_; refine wpList_store41 rfl _ _ rfl g7 rfl k a7 m c7 rfl _ hh ?_; intro w10 r10 k10; refine OnlyN.go ?_; clear hh; have q0 : w10.cell? ⟨g7, 0, none⟩ = some (.int .i64 k) := (by rw [cell_of_row w10 g7 0 _ _ _ r10.row]; rfl); have q1 : w10.cell? ⟨g7, 1, none⟩ = some (.slice a7 m c7) := (by rw [cell_of_row w10 g7 1 _ _ _ r10.row]; rfl); have k80 : Keeps (fun _ => False) w8 w10 := k9.trans' k10 (fun i e => .inr (by omega)); have K10 : Keeps (fun _ => False) V w10 := k8.trans k80; have ql := (el.keep K10).cell; have fl := (el.keep K10).live; have qo0 := (eo.keep K10).cell; have ol10 := ol.keep K10; have y4 : Hid True := trivial)
            | (have hh := y1; clear y1; refine in_round (fun _ h => by cases h) ?_; refine wpList_alloc41 rfl rfl ?_; intro g7 w9 r9 z9 k9; refine OnlyN.go ?_)
            | (have hh := y0; clear y0; refine ⟨trivial, ?_⟩; gi_at_call 26; refine (CallsIn.inRound l' (callsIn_wide.2 (hrd V))).mono ?_; rintro e w8 ⟨u, rfl, ou, k8⟩; obtain ⟨a7, c7, e7, s7, z7, _⟩ := ou.slice2; rw [HM.out] at e7 s7; obtain rfl : u = .slice a7 m c7 := e7; have y1 : Hid True := trivial))
          obtain ⟨W, hW⟩ : ∃ W, (w13.setCell ⟨gl, 0, none⟩ (.slice av3 nv3 cv3)).setCell ⟨go, 0, none⟩ (.bool false) = W := ⟨_, rfl⟩
          have kS : Keeps (fun i => i = gl ∨ i = go) w13 W := by rw [← hW]; exact ((Keeps.refl (fun i => i = gl ∨ i = go) w13).setCell (p := ⟨gl, 0, none⟩) (.inl (.inl rfl)) _).setCell (p := ⟨go, 0, none⟩) (.inl (.inr rfl)) _
          have k8W : Keeps (fun i => (i = gl ∨ i = go) ∨ Value.ownBlock (.slice av nv cv) = some i) w8 W := (((k80.trans k12).mono (fun _ _ h => h.elim)).trans (k13.mono (fun _ _ h => .inr h))).trans (kS.mono (fun _ _ h => .inl h))
          have kA : Keeps (fun i => (i = gl ∨ i = go) ∨ Value.ownBlock (.slice av nv cv) = some i) V W := (k8.mono (fun _ _ h => h.elim)).trans k8W
          have cL : Ce W gl 22 (.slice av3 nv3 cv3) := by rw [← hW]; exact (l13.set _).set_other (by omega) _
          have cO : Ce W go 4 (.bool false) := by rw [← hW]; exact (p13.set_other (by omega) _).set _
          rw [hW]
          refine ⟨kA.from (fun i hi e => ?_), kA.kpx (fun i e => .inl ?_), ⟨⟨(Pp ++ [(k, ws)], false), _, linesP_snoc E1.out Hst.out, cL, cO, .inr ⟨Pp, k, ws, lq, .slice a7 m c7, V.heap.size, rfl, ?_, ?_, ?_, lb, hszV, kA.size⟩, (fun _ => by simp), by simp; omega, (fun p hp => ?_)⟩, HI.out.cr.keeps kA ?_, HI.out.ce.keeps kA ?_, HI.out.keep.trans' kA (fun i e => .inr ?_), by have := kA.size; omega⟩⟩
          · rcases e with e | e
            · omega
            · exact ol.cells e
          · rcases e with e | e
            · exact ⟨by omega, by omega, by omega⟩
            · have := hne i e
              exact ⟨by omega, by omega, by omega⟩
          · exact o13.kpx (kS.kpx (S := fun i => i = gl ∨ i = go) (fun i e => .inl e)) (fun i _ _ e _ => by have := (o13.from e).1; omega)
          · refine al.kpx (kA.kpx (S := fun i => (i = gl ∨ i = go) ∨ Value.ownBlock (.slice av nv cv) = some i) (fun i e => .inl e)) (fun z hz b cs fr e h9 hS => ?_)
            have hb := lb z hz b e
            rcases hS with hS | hS
            · omega
            · exact ol.no9 b cs fr h9 hS
          · have := ou.keeps k8W (fun i _ e => by
              rcases e with e | e
              · omega
              · exact (hne i e).2)
            exact this
          · rcases List.mem_append.1 hp with hp | hp
            · have := EW.out p hp; simp; omega
            · obtain rfl : p = (k, ws) := by simpa using hp
              have := HM.out
              simp
              omega
          · rintro (h | h)
            · omega
            · have := hne _ h; omega
          · rintro (h | h)
            · omega
            · have := hne _ h; omega
          · rcases e with e | e
            · omega
            · have := hne i e; omega
        · have t4 : (k != (4 : Int)) = true := by simp [hk4]
          have Hst : Hid (stepP (Pp, ob) x = none) := by show _ = _; rw [← HH.out, if_neg (fun h => hk1 h.1), if_pos ⟨hk4, hws0.2 hm0⟩]
          clear hws0 hk1 hm0 hk4
          gi_wp2_with (first
            | (have hh := r9; clear r9; refine in_round (fun _ h => by cases h) ?_; refine wpList_store41 rfl _ _ rfl g7 rfl k a7 m c7 rfl _ hh ?_; intro w10 r10 k10; refine OnlyN.go ?_; clear hh; have q0 : w10.cell? ⟨g7, 0, none⟩ = some (.int .i64 k) := (by rw [cell_of_row w10 g7 0 _ _ _ r10.row]; rfl); have q1 : w10.cell? ⟨g7, 1, none⟩ = some (.slice a7 m c7) := (by rw [cell_of_row w10 g7 1 _ _ _ r10.row]; rfl); have k80 : Keeps (fun _ => False) w8 w10 := k9.trans' k10 (fun i e => .inr (by omega)); have K10 : Keeps (fun _ => False) V w10 := k8.trans k80; have qr := (HI.out.cr.keep K10).cell; have fr := (HI.out.cr.keep K10).live; have qe : ∀ u, (w10.setCell ⟨gr, 0, none⟩ u).cell? ⟨ge, 0, none⟩ = some (.int .i64 0) := (fun u => ((HI.out.ce.keep K10).set_other (by omega) u).cell); have fe : ∀ u, (w10.setCell ⟨gr, 0, none⟩ u).frozen? ⟨ge, 0, none⟩ = false := (fun u => ((HI.out.ce.keep K10).set_other (by omega) u).live))
            | (have hh := y1; clear y1; refine in_round (fun _ h => by cases h) ?_; refine wpList_alloc41 rfl rfl ?_; intro g7 w9 r9 z9 k9; refine OnlyN.go ?_)
            | (have hh := y0; clear y0; refine ⟨trivial, ?_⟩; gi_at_call 26; refine (CallsIn.inRound l' (callsIn_wide.2 (hrd V))).mono ?_; rintro e w8 ⟨u, rfl, ou, k8⟩; obtain ⟨a7, c7, e7, s7, z7, _⟩ := ou.slice2; rw [HM.out] at e7 s7; obtain rfl : u = .slice a7 m c7 := e7; have y1 : Hid True := trivial))
          obtain ⟨W, hW⟩ : ∃ W, (w10.setCell ⟨gr, 0, none⟩ (.slice none 0 0)).setCell ⟨ge, 0, none⟩ (.int .i64 15) = W := ⟨_, rfl⟩
          have kA : Keeps (fun i => i = gr ∨ i = ge) V W := by rw [← hW]; exact ((K10.mono (fun _ _ h => h.elim)).setCell (p := ⟨gr, 0, none⟩) (.inl (.inl rfl)) _).setCell (p := ⟨ge, 0, none⟩) (.inl (.inr rfl)) _
          have cR : Ce W gr 22 (.slice none 0 0) := by rw [← hW]; exact ((HI.out.cr.keep K10).set _).set_other (by omega) _
          have cE : Ce W ge 25 (.int .i64 15) := by rw [← hW]; exact ((HI.out.ce.keep K10).set_other (by omega) _).set _
          rw [hW]
          refine ⟨kA.from (fun i hi e => by omega), rfl, ⟨by rw [HX.out]; exact linesP_stop E1.out Hst.out, cR, cE, HI.out.keep.trans' kA (fun i e => .inr (by omega))⟩⟩
      · have t2 : ((m : Int) == (0 : Int)) = false := by simp; exact hm0
        have Hst : Hid (stepP (Pp, ob) x = some (Pp ++ [(k, ws)], false)) := by show _ = _; rw [← HH.out, if_neg (fun h => hk1 h.1), if_neg (fun h => hm0 (hws0.1 h.2)), if_neg (fun h => hk1 h.1), decide_eq_false hk1]
        by_cases hk4 : k = 4
        · have t4 : (k != (4 : Int)) = false := by simp [hk4]
          clear hws0 hk1 hm0 hk4
          obtain ⟨lq, ol, al, lb⟩ := EL.out.all
          obtain ⟨av, nv, cv, rfl⟩ := EL.out.shape
          have hql : lq.length ≤ 100000 := by rw [al.len]; omega
          gi_wp2_with (first
            | (have hh := o12; clear o12; refine in_round (fun _ h => by cases h) ?_; refine wpList_appP rfl _ _ rfl w7.heap.size _ lq rfl hh g12 rfl k a7 m c7 r12 (by omega) (by have := k12.size; have := K10.size; omega) ?_; intro v13 w13 o13 k13; refine OnlyN.go ?_; obtain ⟨av3, nv3, cv3, rfl⟩ := o13.shape; have hne : ∀ i, Value.ownBlock (.slice av nv cv) = some i → B + 3 ≤ i ∧ i < V.heap.size := (fun i e => by have := ol.from e; omega); have l13 := el.keeps ((K10.trans k12).mono (T := fun i => Value.ownBlock (.slice av nv cv) = some i) (fun _ _ h => h.elim) |>.trans k13) (fun e => by have := hne gl e; omega); have p13 := eo.keeps ((K10.trans k12).mono (T := fun i => Value.ownBlock (.slice av nv cv) = some i) (fun _ _ h => h.elim) |>.trans k13) (fun e => by have := hne go e; omega); have r13 : PrAt w13 g7 (k, .slice a7 m c7) := ⟨k13.row (k12.row r10.row (fun h => h)) (fun e => by have := hne g7 e; have := k8.size; omega)⟩; have ql3 := l13.cell; have fl3 := l13.live; have qo3 : ∀ u, (w13.setCell ⟨gl, 0, none⟩ u).cell? ⟨go, 0, none⟩ = some (.bool ob) := (fun u => (p13.set_other (by omega) u).cell); have fo3 : ∀ u, (w13.setCell ⟨gl, 0, none⟩ u).frozen? ⟨go, 0, none⟩ = false := (fun u => (p13.set_other (by omega) u).live); have q03 : ∀ u, (w13.setCell ⟨gl, 0, none⟩ u).cell? ⟨g7, 0, none⟩ = some (.int .i64 k) := (fun u => cell_keeps ((Keeps.refl (· = gl) w13).setCell (p := ⟨gl, 0, none⟩) (.inl rfl) u) (by rw [cell_of_row w13 g7 0 _ _ _ r13.row]; rfl) (by show ¬ g7 = gl; have := k8.size; omega)))
            | (have hh := y5; clear y5; refine in_round (fun _ h => by cases h) ?_; refine wpList_build1P rfl _ rfl k a7 m c7 rfl ?_; intro g12 w12 r12 z12 k12; refine OnlyN.go ?_; have o12 := ol10.keep k12)
            | (have hh := y4; clear y4; refine in_round (fun _ h => by cases h) ?_; refine wpList_load41 rfl _ rfl g7 0 rfl _ _ q0 q1 ?_; refine OnlyN.go ?_; have y5 : Hid True := trivial)
            | (have hh := r9; clear r9; refine in_round (fun _ h => by cases h) ?_; refine wpList_store41 rfl _ _ rfl g7 rfl k a7 m c7 rfl _ hh ?_; intro w10 r10 k10; refine OnlyN.go ?_; clear hh; have q0 : w10.cell? ⟨g7, 0, none⟩ = some (.int .i64 k) := (by rw [cell_of_row w10 g7 0 _ _ _ r10.row]; rfl); have q1 : w10.cell? ⟨g7, 1, none⟩ = some (.slice a7 m c7) := (by rw [cell_of_row w10 g7 1 _ _ _ r10.row]; rfl); have k80 : Keeps (fun _ => False) w8 w10 := k9.trans' k10 (fun i e => .inr (by omega)); have K10 : Keeps (fun _ => False) V w10 := k8.trans k80; have ql := (el.keep K10).cell; have fl := (el.keep K10).live; have qo0 := (eo.keep K10).cell; have ol10 := ol.keep K10; have y4 : Hid True := trivial)
            | (have hh := y1; clear y1; refine in_round (fun _ h => by cases h) ?_; refine wpList_alloc41 rfl rfl ?_; intro g7 w9 r9 z9 k9; refine OnlyN.go ?_)
            | (have hh := y0; clear y0; refine ⟨trivial, ?_⟩; gi_at_call 26; refine (CallsIn.inRound l' (callsIn_wide.2 (hrd V))).mono ?_; rintro e w8 ⟨u, rfl, ou, k8⟩; obtain ⟨a7, c7, e7, s7, z7, _⟩ := ou.slice2; rw [HM.out] at e7 s7; obtain rfl : u = .slice a7 m c7 := e7; have y1 : Hid True := trivial))
          obtain ⟨W, hW⟩ : ∃ W, (w13.setCell ⟨gl, 0, none⟩ (.slice av3 nv3 cv3)).setCell ⟨go, 0, none⟩ (.bool false) = W := ⟨_, rfl⟩
          have kS : Keeps (fun i => i = gl ∨ i = go) w13 W := by rw [← hW]; exact ((Keeps.refl (fun i => i = gl ∨ i = go) w13).setCell (p := ⟨gl, 0, none⟩) (.inl (.inl rfl)) _).setCell (p := ⟨go, 0, none⟩) (.inl (.inr rfl)) _
          have k8W : Keeps (fun i => (i = gl ∨ i = go) ∨ Value.ownBlock (.slice av nv cv) = some i) w8 W := (((k80.trans k12).mono (fun _ _ h => h.elim)).trans (k13.mono (fun _ _ h => .inr h))).trans (kS.mono (fun _ _ h => .inl h))
          have kA : Keeps (fun i => (i = gl ∨ i = go) ∨ Value.ownBlock (.slice av nv cv) = some i) V W := (k8.mono (fun _ _ h => h.elim)).trans k8W
          have cL : Ce W gl 22 (.slice av3 nv3 cv3) := by rw [← hW]; exact (l13.set _).set_other (by omega) _
          have cO : Ce W go 4 (.bool false) := by rw [← hW]; exact (p13.set_other (by omega) _).set _
          rw [hW]
          refine ⟨kA.from (fun i hi e => ?_), kA.kpx (fun i e => .inl ?_), ⟨⟨(Pp ++ [(k, ws)], false), _, linesP_snoc E1.out Hst.out, cL, cO, .inr ⟨Pp, k, ws, lq, .slice a7 m c7, V.heap.size, rfl, ?_, ?_, ?_, lb, hszV, kA.size⟩, (fun _ => by simp), by simp; omega, (fun p hp => ?_)⟩, HI.out.cr.keeps kA ?_, HI.out.ce.keeps kA ?_, HI.out.keep.trans' kA (fun i e => .inr ?_), by have := kA.size; omega⟩⟩
          · rcases e with e | e
            · omega
            · exact ol.cells e
          · rcases e with e | e
            · exact ⟨by omega, by omega, by omega⟩
            · have := hne i e
              exact ⟨by omega, by omega, by omega⟩
          · exact o13.kpx (kS.kpx (S := fun i => i = gl ∨ i = go) (fun i e => .inl e)) (fun i _ _ e _ => by have := (o13.from e).1; omega)
          · refine al.kpx (kA.kpx (S := fun i => (i = gl ∨ i = go) ∨ Value.ownBlock (.slice av nv cv) = some i) (fun i e => .inl e)) (fun z hz b cs fr e h9 hS => ?_)
            have hb := lb z hz b e
            rcases hS with hS | hS
            · omega
            · exact ol.no9 b cs fr h9 hS
          · have := ou.keeps k8W (fun i _ e => by
              rcases e with e | e
              · omega
              · exact (hne i e).2)
            exact this
          · rcases List.mem_append.1 hp with hp | hp
            · have := EW.out p hp; simp; omega
            · obtain rfl : p = (k, ws) := by simpa using hp
              have := HM.out
              simp
              omega
          · rintro (h | h)
            · omega
            · have := hne _ h; omega
          · rintro (h | h)
            · omega
            · have := hne _ h; omega
          · rcases e with e | e
            · omega
            · have := hne i e; omega
        · have t4 : (k != (4 : Int)) = true := by simp [hk4]
          clear hws0 hk1 hm0 hk4
          obtain ⟨lq, ol, al, lb⟩ := EL.out.all
          obtain ⟨av, nv, cv, rfl⟩ := EL.out.shape
          have hql : lq.length ≤ 100000 := by rw [al.len]; omega
          gi_wp2_with (first
            | (have hh := o12; clear o12; refine in_round (fun _ h => by cases h) ?_; refine wpList_appP rfl _ _ rfl w7.heap.size _ lq rfl hh g12 rfl k a7 m c7 r12 (by omega) (by have := k12.size; have := K10.size; omega) ?_; intro v13 w13 o13 k13; refine OnlyN.go ?_; obtain ⟨av3, nv3, cv3, rfl⟩ := o13.shape; have hne : ∀ i, Value.ownBlock (.slice av nv cv) = some i → B + 3 ≤ i ∧ i < V.heap.size := (fun i e => by have := ol.from e; omega); have l13 := el.keeps ((K10.trans k12).mono (T := fun i => Value.ownBlock (.slice av nv cv) = some i) (fun _ _ h => h.elim) |>.trans k13) (fun e => by have := hne gl e; omega); have p13 := eo.keeps ((K10.trans k12).mono (T := fun i => Value.ownBlock (.slice av nv cv) = some i) (fun _ _ h => h.elim) |>.trans k13) (fun e => by have := hne go e; omega); have r13 : PrAt w13 g7 (k, .slice a7 m c7) := ⟨k13.row (k12.row r10.row (fun h => h)) (fun e => by have := hne g7 e; have := k8.size; omega)⟩; have ql3 := l13.cell; have fl3 := l13.live; have qo3 : ∀ u, (w13.setCell ⟨gl, 0, none⟩ u).cell? ⟨go, 0, none⟩ = some (.bool ob) := (fun u => (p13.set_other (by omega) u).cell); have fo3 : ∀ u, (w13.setCell ⟨gl, 0, none⟩ u).frozen? ⟨go, 0, none⟩ = false := (fun u => (p13.set_other (by omega) u).live); have q03 : ∀ u, (w13.setCell ⟨gl, 0, none⟩ u).cell? ⟨g7, 0, none⟩ = some (.int .i64 k) := (fun u => cell_keeps ((Keeps.refl (· = gl) w13).setCell (p := ⟨gl, 0, none⟩) (.inl rfl) u) (by rw [cell_of_row w13 g7 0 _ _ _ r13.row]; rfl) (by show ¬ g7 = gl; have := k8.size; omega)))
            | (have hh := y5; clear y5; refine in_round (fun _ h => by cases h) ?_; refine wpList_build1P rfl _ rfl k a7 m c7 rfl ?_; intro g12 w12 r12 z12 k12; refine OnlyN.go ?_; have o12 := ol10.keep k12)
            | (have hh := y4; clear y4; refine in_round (fun _ h => by cases h) ?_; refine wpList_load41 rfl _ rfl g7 0 rfl _ _ q0 q1 ?_; refine OnlyN.go ?_; have y5 : Hid True := trivial)
            | (have hh := r9; clear r9; refine in_round (fun _ h => by cases h) ?_; refine wpList_store41 rfl _ _ rfl g7 rfl k a7 m c7 rfl _ hh ?_; intro w10 r10 k10; refine OnlyN.go ?_; clear hh; have q0 : w10.cell? ⟨g7, 0, none⟩ = some (.int .i64 k) := (by rw [cell_of_row w10 g7 0 _ _ _ r10.row]; rfl); have q1 : w10.cell? ⟨g7, 1, none⟩ = some (.slice a7 m c7) := (by rw [cell_of_row w10 g7 1 _ _ _ r10.row]; rfl); have k80 : Keeps (fun _ => False) w8 w10 := k9.trans' k10 (fun i e => .inr (by omega)); have K10 : Keeps (fun _ => False) V w10 := k8.trans k80; have ql := (el.keep K10).cell; have fl := (el.keep K10).live; have qo0 := (eo.keep K10).cell; have ol10 := ol.keep K10; have y4 : Hid True := trivial)
            | (have hh := y1; clear y1; refine in_round (fun _ h => by cases h) ?_; refine wpList_alloc41 rfl rfl ?_; intro g7 w9 r9 z9 k9; refine OnlyN.go ?_)
            | (have hh := y0; clear y0; refine ⟨trivial, ?_⟩; gi_at_call 26; refine (CallsIn.inRound l' (callsIn_wide.2 (hrd V))).mono ?_; rintro e w8 ⟨u, rfl, ou, k8⟩; obtain ⟨a7, c7, e7, s7, z7, _⟩ := ou.slice2; rw [HM.out] at e7 s7; obtain rfl : u = .slice a7 m c7 := e7; have y1 : Hid True := trivial))
          obtain ⟨W, hW⟩ : ∃ W, (w13.setCell ⟨gl, 0, none⟩ (.slice av3 nv3 cv3)).setCell ⟨go, 0, none⟩ (.bool false) = W := ⟨_, rfl⟩
          have kS : Keeps (fun i => i = gl ∨ i = go) w13 W := by rw [← hW]; exact ((Keeps.refl (fun i => i = gl ∨ i = go) w13).setCell (p := ⟨gl, 0, none⟩) (.inl (.inl rfl)) _).setCell (p := ⟨go, 0, none⟩) (.inl (.inr rfl)) _
          have k8W : Keeps (fun i => (i = gl ∨ i = go) ∨ Value.ownBlock (.slice av nv cv) = some i) w8 W := (((k80.trans k12).mono (fun _ _ h => h.elim)).trans (k13.mono (fun _ _ h => .inr h))).trans (kS.mono (fun _ _ h => .inl h))
          have kA : Keeps (fun i => (i = gl ∨ i = go) ∨ Value.ownBlock (.slice av nv cv) = some i) V W := (k8.mono (fun _ _ h => h.elim)).trans k8W
          have cL : Ce W gl 22 (.slice av3 nv3 cv3) := by rw [← hW]; exact (l13.set _).set_other (by omega) _
          have cO : Ce W go 4 (.bool false) := by rw [← hW]; exact (p13.set_other (by omega) _).set _
          rw [hW]
          refine ⟨kA.from (fun i hi e => ?_), kA.kpx (fun i e => .inl ?_), ⟨⟨(Pp ++ [(k, ws)], false), _, linesP_snoc E1.out Hst.out, cL, cO, .inr ⟨Pp, k, ws, lq, .slice a7 m c7, V.heap.size, rfl, ?_, ?_, ?_, lb, hszV, kA.size⟩, (fun _ => by simp), by simp; omega, (fun p hp => ?_)⟩, HI.out.cr.keeps kA ?_, HI.out.ce.keeps kA ?_, HI.out.keep.trans' kA (fun i e => .inr ?_), by have := kA.size; omega⟩⟩
          · rcases e with e | e
            · omega
            · exact ol.cells e
          · rcases e with e | e
            · exact ⟨by omega, by omega, by omega⟩
            · have := hne i e
              exact ⟨by omega, by omega, by omega⟩
          · exact o13.kpx (kS.kpx (S := fun i => i = gl ∨ i = go) (fun i e => .inl e)) (fun i _ _ e _ => by have := (o13.from e).1; omega)
          · refine al.kpx (kA.kpx (S := fun i => (i = gl ∨ i = go) ∨ Value.ownBlock (.slice av nv cv) = some i) (fun i e => .inl e)) (fun z hz b cs fr e h9 hS => ?_)
            have hb := lb z hz b e
            rcases hS with hS | hS
            · omega
            · exact ol.no9 b cs fr h9 hS
          · have := ou.keeps k8W (fun i _ e => by
              rcases e with e | e
              · omega
              · exact (hne i e).2)
            exact this
          · rcases List.mem_append.1 hp with hp | hp
            · have := EW.out p hp; simp; omega
            · obtain rfl : p = (k, ws) := by simpa using hp
              have := HM.out
              simp
              omega
          · rintro (h | h)
            · omega
            · have := hne _ h; omega
          · rintro (h | h)
            · omega
            · have := hne _ h; omega
          · rcases e with e | e
            · omega
            · have := hne i e; omega
  case done =>
    rintro D V hD' hI hd
    obtain ⟨⟨Pp, ob⟩, v, e1, el, eo, eL, _⟩ := hI.out
    simp only at eo eL
    have hRR : Hid (PR = (Pp, 0)) := by show _ = _; rw [HP.out, e1]; rfl
    obtain ⟨av, nv, cv, rfl⟩ := eL.shape
    obtain ⟨lq, ol, al, lb⟩ := eL.all
    have ql := el.cell
    have qr := hI.cr.cell
    have fr := hI.cr.live
    have qe : ∀ u, (V.setCell ⟨gr, 0, none⟩ u).cell? ⟨ge, 0, none⟩ = some (.int .i64 0) := fun u => (hI.ce.set_other (by omega) u).cell
    have fe : ∀ u, (V.setCell ⟨gr, 0, none⟩ u).frozen? ⟨ge, 0, none⟩ = false := fun u => (hI.ce.set_other (by omega) u).live
    have HI := Hid.mk' hI
    clear e1 hI
    gi_wp2
    obtain ⟨V2, hV2⟩ : ∃ V2, (V.setCell ⟨gr, 0, none⟩ (.slice av nv cv)).setCell ⟨ge, 0, none⟩ (.int .i64 0) = V2 := ⟨_, rfl⟩
    have kk : Keeps (fun k => k = gr ∨ k = ge) V V2 := by
      rw [← hV2]
      exact ((Keeps.refl (fun k => k = gr ∨ k = ge) V).setCell (p := ⟨gr, 0, none⟩) (.inl (.inl rfl)) _).setCell (p := ⟨ge, 0, none⟩) (.inl (.inr rfl)) _
    have crV : Ce V2 gr 22 (.slice av nv cv) := by rw [← hV2]; exact (HI.out.cr.set _).set_other (by omega) _
    have ceV : Ce V2 ge 25 (.int .i64 0) := by rw [← hV2]; exact (HI.out.ce.set_other (by omega) _).set _
    rw [hV2]
    have hd4 := kk.row hd (by omega)
    refine ⟨by simp, .inl ⟨_, _, rfl, run_takeDeferred hd4, ?_⟩⟩
    have kp : KpX (fun k => k = gr ∨ k = ge) V (V2.putObj D (.deferred none)) := (kk.kpx (fun k e => .inl e)).trans (KpX.putObj _ hd4 rfl)
    refine ⟨_, results_cc rfl Tryd.isAgg22 Tryd.isAgg25 _ _ gr ge _ _ rfl rfl (crV.put (by omega) _) (ceV.put (by omega) _), ?_, ?_⟩
    · rw [hRR.out]
      refine ⟨_, rfl, lq, (ol.kpx kp (fun i _ _ e _ => by have := (ol.from e).1; omega)).down (by omega), al.kpx kp (fun z hz b _ _ e _ => by have := (lb z hz b e).1; omega)⟩
    · exact (HI.out.keep.trans' kk (fun k e => .inr (by omega))).grown (grownBy_putObj' _ D _) (fun k e => by cases e; exact .inr (by omega))
  case stop =>
    rintro D cd pre x rest V hD' hx ⟨rfl, h⟩ hd
    have hRR : Hid (PR = ([], 15)) := by show _ = _; rw [HP.out, h.no]; rfl
    have H := Hid.mk' h
    clear hx h
    gi_wp2
    refine ⟨by simp, .inl ⟨_, _, rfl, run_takeDeferred hd, ?_⟩⟩
    refine ⟨_, results_cc rfl Tryd.isAgg22 Tryd.isAgg25 _ _ gr ge _ _ rfl rfl (H.out.cr.put (by omega) _) (H.out.ce.put (by omega) _), ?_, ?_⟩
    · rw [hRR.out]
      exact ⟨_, rfl, [], OwnP.nil _ _, AllW.nil _⟩
    · exact H.out.keep.grown (grownBy_putObj' _ D _) (fun k e => by cases e; exact .inr (by omega))
end

/-! Xo: The program's Parse. -/
section
open Go.RowKit Go.Sort Go.Shelf
attribute [local go_sem] Oper.semAt_some

theorem load_set_other {w : World} {g k : Nat} {t : TypeId} {v : Value} (h : Ce w g t v) (hk : k ≠ g) (u : Value) : (w.setCell ⟨k, 0, none⟩ u).cell? ⟨g, 0, none⟩ = some v ∧ (w.setCell ⟨k, 0, none⟩ u).frozen? ⟨g, 0, none⟩ = false := ⟨(h.set_other hk u).cell, (h.set_other hk u).live⟩

set_option maxHeartbeats 4000000 in
theorem pparse_large (w : World) (s : ByteArray) (hs : 240 < s.size) :
    Calls Tryd.prog 10 #[.string s] w fun e w' => e = .returned (.tuple #[.slice none 0 0, .int .i64 16]) ∧ Keeps (fun _ => False) w w' := by
  have g1 : (240 : Int) < (s.size : Int) := by omega
  refine (callsIn_wide (n := 9)).1 ?_
  refine callsIn_of_wp_marks Tryd.func10 rfl trivial ?_ rfl
  simp only [Tryd.ntmps10, List.size_toArray, List.length_cons, List.length_nil, Nat.reduceAdd, Nat.reduceSub, Array.replicate_succ, Array.replicate_zero, List.push_toArray, List.append_toArray, List.nil_append, List.cons_append]
  gi_wp2_with (first
    | (have hh := y1; clear y1; refine wpListIn_allocC 25 (.int .i64 0) zeroE25 rfl rfl rfl ?_; intro ge w2 c2 z2 k2; have cr := c1.keep k2; have qr := cr.cell; have fr := cr.live; have hne : gr ≠ ge := (by have := c1.lt; omega); have qe := (fun u => (load_set_other c2 hne u).1); have fe := (fun u => (load_set_other c2 hne u).2))
    | (refine wpListIn_allocC 22 (.slice none 0 0) zeroP22 rfl rfl rfl ?_; intro gr w1 c1 z1 k1; have y1 : Hid True := trivial))
  have kk : Keeps (fun _ => False) w ((w2.setCell ⟨gr, 0, none⟩ (.slice none 0 0)).setCell ⟨ge, 0, none⟩ (.int .i64 16)) := ((k1.trans k2).setCell (p := ⟨gr, 0, none⟩) (.inr z1) _).setCell (p := ⟨ge, 0, none⟩) (.inr (by have := k1.size; show w.heap.size ≤ ge; omega)) _
  exact ⟨_, results_cc rfl Tryd.isAgg22 Tryd.isAgg25 _ _ gr ge _ _ rfl rfl ((cr.set _).set_other (Ne.symm hne) _) ((c2.set_other hne _).set _), rfl, kk⟩

set_option maxHeartbeats 4000000 in
theorem pparse_bad (w : World) (hT : Lib.Utf8Tabs 0 1 w) (s : ByteArray) (hs : s.size ≤ 240) (hp : pln true s.data.toList = false) :
    Calls Tryd.prog 10 #[.string s] w fun e w' => e = .returned (.tuple #[.slice none 0 0, .int .i64 15]) ∧ Keeps (fun _ => False) w w' := by
  have g1 : ¬ (240 : Int) < (s.size : Int) := by omega
  have hval := fun W (hW : Lib.Utf8Tabs 0 1 W) => valid11 W hW s (by omega)
  cases hv : vd s.data.toList with
  | false =>
    rw [hv] at hval
    clear hp hv
    refine (callsIn_wide (n := 9)).1 ?_
    refine callsIn_of_wp_marks Tryd.func10 rfl trivial ?_ rfl
    simp only [Tryd.ntmps10, List.size_toArray, List.length_cons, List.length_nil, Nat.reduceAdd, Nat.reduceSub, Array.replicate_succ, Array.replicate_zero, List.push_toArray, List.append_toArray, List.nil_append, List.cons_append]
    gi_wp2_with (first
      | (have hh := y2; clear y2; refine ⟨trivial, ?_⟩; gi_at_call 22; refine (callsIn_wide.2 (hval _ (Tabs.keep (Tabs.keep hT k1) k2))).mono ?_; rintro e w3 ⟨rfl, k3⟩; have c3 := c2.keep k3; have cr := (c1.keep k2).keep k3; have qr := cr.cell; have fr := cr.live; have hne : gr ≠ ge := (by have := c1.lt; omega); have qe := (fun u => (load_set_other c3 hne u).1); have fe := (fun u => (load_set_other c3 hne u).2))
      | (have hh := y1; clear y1; refine wpListIn_allocC 25 (.int .i64 0) zeroE25 rfl rfl rfl ?_; intro ge w2 c2 z2 k2; have y2 : Hid True := trivial)
      | (refine wpListIn_allocC 22 (.slice none 0 0) zeroP22 rfl rfl rfl ?_; intro gr w1 c1 z1 k1; have y1 : Hid True := trivial))
    refine ⟨trivial, ?_⟩
    gi_wp2
    have kk : Keeps (fun _ => False) w ((w3.setCell ⟨gr, 0, none⟩ (.slice none 0 0)).setCell ⟨ge, 0, none⟩ (.int .i64 15)) := (((k1.trans k2).trans k3).setCell (p := ⟨gr, 0, none⟩) (.inr z1) _).setCell (p := ⟨ge, 0, none⟩) (.inr (by have := k1.size; show w.heap.size ≤ ge; omega)) _
    exact ⟨_, results_cc rfl Tryd.isAgg22 Tryd.isAgg25 _ _ gr ge _ _ rfl rfl ((cr.set _).set_other (Ne.symm hne) _) ((c3.set_other hne _).set _), rfl, kk⟩
  | true =>
    have hstr := fun W => contains_strg W s hv
    rw [hp] at hstr
    rw [hv] at hval
    clear hp hv
    refine (callsIn_wide (n := 9)).1 ?_
    refine callsIn_of_wp_marks Tryd.func10 rfl trivial ?_ rfl
    simp only [Tryd.ntmps10, List.size_toArray, List.length_cons, List.length_nil, Nat.reduceAdd, Nat.reduceSub, Array.replicate_succ, Array.replicate_zero, List.push_toArray, List.append_toArray, List.nil_append, List.cons_append]
    gi_wp2_with (first
      | (have hh := y3; clear y3; refine ⟨trivial, ?_⟩; gi_at_call 23; refine (callsIn_wide.2 (hstr _)).mono ?_; rintro e w4 ⟨rfl, k4⟩; have c4 := (c2.keep k3).keep k4; have cr := ((c1.keep k2).keep k3).keep k4; have qr := cr.cell; have fr := cr.live; have hne : gr ≠ ge := (by have := c1.lt; omega); have qe := (fun u => (load_set_other c4 hne u).1); have fe := (fun u => (load_set_other c4 hne u).2))
      | (have hh := y2; clear y2; refine ⟨trivial, ?_⟩; gi_at_call 22; refine (callsIn_wide.2 (hval _ (Tabs.keep (Tabs.keep hT k1) k2))).mono ?_; rintro e w3 ⟨rfl, k3⟩; have y3 : Hid True := trivial)
      | (have hh := y1; clear y1; refine wpListIn_allocC 25 (.int .i64 0) zeroE25 rfl rfl rfl ?_; intro ge w2 c2 z2 k2; have y2 : Hid True := trivial)
      | (refine wpListIn_allocC 22 (.slice none 0 0) zeroP22 rfl rfl rfl ?_; intro gr w1 c1 z1 k1; have y1 : Hid True := trivial))
    have kk : Keeps (fun _ => False) w ((w4.setCell ⟨gr, 0, none⟩ (.slice none 0 0)).setCell ⟨ge, 0, none⟩ (.int .i64 15)) := ((((k1.trans k2).trans k3).trans k4).setCell (p := ⟨gr, 0, none⟩) (.inr z1) _).setCell (p := ⟨ge, 0, none⟩) (.inr (by have := k1.size; show w.heap.size ≤ ge; omega)) _
    exact ⟨_, results_cc rfl Tryd.isAgg22 Tryd.isAgg25 _ _ gr ge _ _ rfl rfl ((cr.set _).set_other (Ne.symm hne) _) ((c4.set_other hne _).set _), rfl, kk⟩

/-- The program's Parse. -/
theorem pparse10 (w : World) (hT : Lib.Utf8Tabs 0 1 w) (s : ByteArray) :
    Calls Tryd.prog 10 #[.string s] w fun e w' => (∃ v, e = .returned (.tuple #[v, .int .i64 (parseL s.data.toList).2]) ∧ ∃ l, OwnP w' w.heap.size v l ∧ AllW w' l (parseL s.data.toList).1) ∧ Keeps (fun _ => False) w w' := by
  by_cases h1 : s.size ≤ 240
  · cases hp : pln true s.data.toList with
    | true => exact pparse_core w hT s h1 hp
    | false =>
      have hR : parseL s.data.toList = ([], 15) := by unfold parseL; rw [if_neg (by rw [sz_len]; omega), if_pos hp]
      rw [hR]
      refine (pparse_bad w hT s h1 hp).mono ?_
      rintro e w' ⟨rfl, k⟩
      exact ⟨⟨_, rfl, [], OwnP.nil _ _, AllW.nil _⟩, k⟩
  · have hR : parseL s.data.toList = ([], 16) := by unfold parseL; rw [if_pos (by rw [sz_len]; omega)]
    rw [hR]
    refine (pparse_large w s (by omega)).mono ?_
    rintro e w' ⟨rfl, k⟩
    exact ⟨⟨_, rfl, [], OwnP.nil _ _, AllW.nil _⟩, k⟩
end

end Go.Proofs.YtkcnnkakpkdhkaaDoor
