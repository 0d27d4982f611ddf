/-
  Parts whose last one may grow in place; where Parse stands.
-/
import Derived.Test.YtkcnnkakpkdhkaaDoorXl
set_option linter.all false
set_option maxRecDepth 100000
namespace Go.Proofs.YtkcnnkakpkdhkaaDoor
open Go.RowKit Go.Sort Go.Shelf
attribute [local go_sem] Oper.semAt_some

theorem OwnP.kpx {S : Nat → Prop} {w w' : World} {base : Nat} {v : Value} {l : List (Int × Value)} (h : OwnP w base v l) (hk : KpX S w w') (hS : ∀ i cs fr, v.ownBlock = some i → w.heap[i]? = some (.cells cs 41 fr) → ¬ S i) : OwnP w' base v l := by
  obtain ⟨h1, h2⟩ := h.owns
  refine ⟨⟨h1, ?_⟩⟩
  rcases h2 with h2 | ⟨g, cap, cur, rfl, hb, hg, rest⟩
  · exact .inl h2
  · exact .inr ⟨g, cap, cur, rfl, hb, hk.2 g _ _ _ hg (hS g _ _ rfl hg), rest⟩
theorem OwnT.kpx {S : Nat → Prop} {w w' : World} {base : Nat} {v : Value} {l : List (List UInt8)} (h : OwnT w base v l) (hk : KpX S w w') (hS : ∀ i, v.ownBlock = some i → ¬ S i) : OwnT w' base v l := by
  obtain ⟨h1, h2⟩ := h.owns
  refine ⟨⟨h1, ?_⟩⟩
  rcases h2 with h2 | ⟨g, cap, cur, rfl, hb, hg, rest⟩
  · exact .inl h2
  · exact .inr ⟨g, cap, cur, rfl, hb, hk.2 g _ _ _ hg (hS g rfl), rest⟩
theorem Wd.kpx {S : Nat → Prop} {w w' : World} {v : Value} {ws : List (List UInt8)} (h : Wd w v ws) (hk : KpX S w w') (hS : ∀ b cs fr, v.ownBlock = some b → w.heap[b]? = some (.cells cs 9 fr) → ¬ S b) : Wd w' v ws := by
  obtain ⟨a, n, c, rfl, hs, hn, hb⟩ := h.out
  refine ⟨a, n, c, rfl, ⟨hs.len, hs.cap, fun j x hx => ?_⟩, hn, fun b o e => ?_⟩
  · obtain ⟨b, o, e, hc⟩ := hs.at_ j x hx
    obtain ⟨cs, fr, h1⟩ := hb b o e
    exact ⟨b, o, e, hk.cell hc (hS b cs fr (by rw [e]; rfl) h1)⟩
  · obtain ⟨cs, fr, h1⟩ := hb b o e
    exact ⟨cs, fr, hk.2 b _ _ _ h1 (hS b cs fr (by rw [e]; rfl) h1)⟩
theorem AllW.kpx {S : Nat → Prop} {w w' : World} {l : List (Int × Value)} {P : List Pt} (h : AllW w l P) (hk : KpX S w w') (hS : ∀ x ∈ l, ∀ b cs fr, x.2.ownBlock = some b → w.heap[b]? = some (.cells cs 9 fr) → ¬ S b) : AllW w' l P :=
  ⟨h.len, fun j x p hx hp => ⟨(h.at_ j x p hx hp).1, (h.at_ j x p hx hp).2.kpx hk (hS x (List.mem_of_getElem? hx))⟩⟩
theorem OwnP.down {W : World} {base b' : Nat} {v : Value} {l : List (Int × Value)} (h : OwnP W base v l) (hb : b' ≤ base) : OwnP W b' v l := by
  obtain ⟨h1, h2⟩ := h.owns
  refine ⟨⟨h1, ?_⟩⟩
  rcases h2 with h2 | ⟨g, cap, cur, rfl, hb2, rest⟩
  · exact .inl h2
  · exact .inr ⟨g, cap, cur, rfl, by omega, rest⟩
theorem OwnP.shape {W : World} {base : Nat} {v : Value} {l : List (Int × Value)} (h : OwnP W base v l) : ∃ a n c, v = .slice a n c := by
  obtain ⟨h1, h2⟩ := h.owns
  rcases h2 with ⟨rfl, _⟩ | ⟨g, cap, cur, rfl, _⟩
  · exact ⟨_, _, _, rfl⟩
  · exact ⟨_, _, _, rfl⟩
theorem OwnP.cells {W : World} {base : Nat} {v : Value} {l : List (Int × Value)} (h : OwnP W base v l) {k : Nat} (e : v.ownBlock = some k) : ∃ cs t fr, W.heap[k]? = some (.cells cs t fr) := by
  obtain ⟨h1, h2⟩ := h.owns
  rcases h2 with ⟨rfl, _⟩ | ⟨g, cap, cur, rfl, hb, hgr, rest⟩
  · cases e
  · cases e; exact ⟨_, _, _, hgr⟩
theorem OwnP.is41 {W : World} {base : Nat} {v : Value} {l : List (Int × Value)} (h : OwnP W base v l) {k : Nat} (e : v.ownBlock = some k) : ∃ cs fr, W.heap[k]? = some (.cells cs 41 fr) := by
  obtain ⟨h1, h2⟩ := h.owns
  rcases h2 with ⟨rfl, _⟩ | ⟨g, cap, cur, rfl, hb, hgr, rest⟩
  · cases e
  · cases e; exact ⟨_, _, hgr⟩

theorem OwnT.is9 {W : World} {base : Nat} {v : Value} {l : List (List UInt8)} (h : OwnT W base v l) {k : Nat} (e : v.ownBlock = some k) : ∃ cs fr, W.heap[k]? = some (.cells cs 9 fr) := by
  obtain ⟨h1, h2⟩ := h.owns
  rcases h2 with ⟨rfl, _⟩ | ⟨g, cap, cur, rfl, hb, hgr, rest⟩
  · cases e
  · cases e; exact ⟨_, _, hgr⟩

/-- Parts in rows of one's own from B on; the last one's words are alone in theirs. -/
def Lst (V : World) (B : Nat) (v : Value) (P : List Pt) : Prop :=
  (P = [] ∧ OwnP V B v []) ∨ ∃ (Q : List Pt) (k : Int) (ws : List (List UInt8)) (lq : List (Int × Value)) (u : Value) (Bu : Nat), P = Q ++ [(k, ws)] ∧ OwnP V B v (lq ++ [(k, u)]) ∧ AllW V lq Q ∧ OwnT V Bu u ws ∧ (∀ x ∈ lq, ∀ b, x.2.ownBlock = some b → B ≤ b ∧ b < Bu) ∧ B ≤ Bu ∧ Bu ≤ V.heap.size
theorem Lst.kpx {S : Nat → Prop} {V V' : World} {B : Nat} {v : Value} {P : List Pt} (h : Lst V B v P) (hk : KpX S V V') (hS : ∀ i, B ≤ i → ¬ S i) : Lst V' B v P := by
  rcases h with ⟨h1, h2⟩ | ⟨Q, k, ws, lq, u, Bu, h1, h2, h3, h4, h5, h6, h7⟩
  · exact .inl ⟨h1, h2.kpx hk (fun i _ _ e _ => hS i (h2.from e).1)⟩
  · refine .inr ⟨Q, k, ws, lq, u, Bu, h1, h2.kpx hk (fun i _ _ e _ => hS i (h2.from e).1), h3.kpx hk (fun x hx b _ _ e _ => hS b (h5 x hx b e).1), h4.kpx hk (fun i e => hS i (by have := (h4.from e).1; omega)), h5, h6, Nat.le_trans h7 hk.1⟩
/-- All of them, to read. -/
theorem Lst.all {V : World} {B : Nat} {v : Value} {P : List Pt} (h : Lst V B v P) : ∃ l, OwnP V B v l ∧ AllW V l P ∧ ∀ x ∈ l, ∀ b, x.2.ownBlock = some b → B ≤ b ∧ b < V.heap.size := by
  rcases h with ⟨rfl, h2⟩ | ⟨Q, k, ws, lq, u, Bu, rfl, h2, h3, h4, h5, h6, h7⟩
  · exact ⟨[], h2, AllW.nil _, fun x hx => by cases hx⟩
  · refine ⟨_, h2, h3.snoc h4.wd, fun x hx b e => ?_⟩
    rcases List.mem_append.1 hx with hx | hx
    · have := h5 x hx b e
      exact ⟨this.1, by omega⟩
    · obtain rfl : x = (k, u) := by simpa using hx
      have := h4.from e
      exact ⟨by omega, this.2⟩
theorem Lst.shape {V : World} {B : Nat} {v : Value} {P : List Pt} (h : Lst V B v P) : ∃ a n c, v = .slice a n c := by
  obtain ⟨l, h1, _⟩ := h.all
  exact h1.shape


theorem linesP_cons (x : List UInt8) (r : List (List UInt8)) (st : List Pt × Bool) : linesP (x :: r) st = (match stepP st x with | none => none | some st' => linesP r st') := rfl
theorem linesP_app : ∀ (a b : List (List UInt8)) (st : List Pt × Bool), linesP (a ++ b) st = (match linesP a st with | none => none | some st' => linesP b st')
  | [], b, st => rfl
  | x :: a, b, st => by
    rw [List.cons_append, linesP_cons, linesP_cons]
    cases stepP st x with
    | none => rfl
    | some st' => exact linesP_app a b st'
theorem linesP_snoc {a : List (List UInt8)} {x : List UInt8} {st st' st2 : List Pt × Bool} (h : linesP a st = some st') (h2 : stepP st' x = some st2) : linesP (a ++ [x]) st = some st2 := by
  rw [linesP_app, h]
  show (match stepP st' x with | none => none | some st' => linesP [] st') = _
  rw [h2]; rfl
theorem linesP_stop {a r : List (List UInt8)} {x : List UInt8} {st st' : List Pt × Bool} (h : linesP a st = some st') (h2 : stepP st' x = none) : linesP (a ++ x :: r) st = none := by
  rw [linesP_app, h]
  show (match stepP st' x with | none => none | some st' => linesP r st') = _
  rw [h2]

theorem results_cc {fn : Func} {p q : Tmp} {t1 t2 : TypeId} (h : fn.results = #[.cell p t1, .cell q t2]) (ha : ∀ w, (isAgg t1).run Tryd.prog w = .ok false w) (hb : ∀ w, (isAgg t2).run Tryd.prog w = .ok false w) (tmps : Array Value) (w : World) (g1 g2 : Nat) (u v : Value)
    (hp : tmps.getD p undef = .pointer (some ⟨g1, 0, none⟩)) (hq : tmps.getD q undef = .pointer (some ⟨g2, 0, none⟩)) (c1 : Ce w g1 t1 u) (c2 : Ce w g2 t2 v) : (results fn tmps).run Tryd.prog w = .ok (.tuple #[u, v]) w := by
  have hp' : tmps[p]?.getD undef = .pointer (some ⟨g1, 0, none⟩) := by simpa using hp
  have hq' : tmps[q]?.getD undef = .pointer (some ⟨g2, 0, none⟩) := by simpa using hq
  simp [results, h, hp', hq', asAddr, load_ce ha c1, load_ce hb c2]
theorem zeroP22 : ∀ w, (zeroValue 22).run Tryd.prog w = .ok (.slice none 0 0) w := fun _ => by kernel_rfl
theorem zeroE25 : ∀ w, (zeroValue 25).run Tryd.prog w = .ok (.int .i64 0) w := fun _ => by kernel_rfl

/-- Where Parse stands, behind the lines pre. -/
structure PrI (w w5 : World) (gr ge gl go : Nat) (pre : List (List UInt8)) (V : World) : Prop where
  out : ∃ (st : List Pt × Bool) (v : Value), linesP pre ([], false) = some st ∧ Ce V gl 22 v ∧ Ce V go 4 (.bool st.2) ∧ Lst V w5.heap.size v st.1 ∧ (st.2 = true → st.1 ≠ []) ∧ st.1.length ≤ pre.length ∧ (∀ p ∈ st.1, p.2.length ≤ 241 * pre.length)
  cr : Ce V gr 22 (.slice none 0 0)
  ce : Ce V ge 25 (.int .i64 0)
  keep : Keeps (fun _ => False) w V
  size : w5.heap.size ≤ V.heap.size
theorem PrI.kpx {S : Nat → Prop} {w w5 : World} {gr ge gl go : Nat} {pre : List (List UInt8)} {V V' : World} (h : PrI w w5 gr ge gl go pre V) (hk : KpX S V V') (hw : Keeps (fun _ => False) w V') (h1 : ¬ S gr) (h2 : ¬ S ge) (h3 : ¬ S gl) (h4 : ¬ S go) (h5 : ∀ i, w5.heap.size ≤ i → ¬ S i) : PrI w w5 gr ge gl go pre V' := by
  obtain ⟨st, v, e1, e2, e3, e4, e5⟩ := h.out
  exact ⟨⟨st, v, e1, e2.kpx hk h3, e3.kpx hk h4, e4.kpx hk h5, e5⟩, h.cr.kpx hk h1, h.ce.kpx hk h2, hw, Nat.le_trans h.size hk.1⟩
/-- Where it stops with an error. -/
structure PrX (w : World) (gr ge : Nat) (XS : List (List UInt8)) (V : World) : Prop where
  no : linesP XS ([], false) = none
  cr : Ce V gr 22 (.slice none 0 0)
  ce : Ce V ge 25 (.int .i64 15)
  keep : Keeps (fun _ => False) w V

/-- A world in which one cell is known. -/
structure CellW (a : Addr) (z : Value) where
  w : World
  h : w.cell? a = some z

theorem lines25 (w : World) (s : ByteArray) : Calls Tryd.prog 25 #[.string s] w fun e w' =>
    e = .returned (.func (.func 57) #[] #[.pointer (some ⟨w.heap.size + 1, 0, none⟩), .pointer (some ⟨w.heap.size, 0, none⟩), .pointer (some ⟨w.heap.size + 2, 0, none⟩)]) ∧ Spl w' w.heap.size (w.heap.size + 1) (w.heap.size + 2) ⟨#[10]⟩ s ∧ w'.heap.size = w.heap.size + 3 ∧ Keeps (fun _ => False) w w' := by
  go_enter Tryd.func25, Tryd.ntmps25
  go_wp2_with (go_at_call 39; refine (split39 w s ⟨#[10]⟩).mono ?_; rintro e w' ⟨rfl, h1, h2, h3⟩)
  go_ret
  exact ⟨rfl, h1, h2, h3⟩

end Go.Proofs.YtkcnnkakpkdhkaaDoor
