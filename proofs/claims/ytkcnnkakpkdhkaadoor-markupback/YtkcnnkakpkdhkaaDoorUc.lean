
/-
  Valid; one sign; letters.
-/
import Derived.Test.YtkcnnkakpkdhkaaDoorUb
set_option linter.all false
namespace Go.Proofs.YtkcnnkakpkdhkaaDoor
open Go.RowKit Go.Sort Go.Shelf
attribute [local go_sem] Oper.semAt_some

/-- Great, a letter; the small one. -/
def isG (v : Int) : Bool := decide (65 ≤ v ∧ v ≤ 90)
def isL (v : Int) : Bool := decide ((65 ≤ v ∧ v ≤ 90) ∨ (97 ≤ v ∧ v ≤ 122))
def low (v : Int) : Int := if 65 ≤ v ∧ v ≤ 90 then v + 32 else v

theorem load_ce {t : TypeId} (ha : ∀ w, (isAgg t).run Tryd.prog w = .ok false w) {w : World} {g : Nat} {v : Value} (h : Ce w g t v) : (loadVar t ⟨g, 0, none⟩).run Tryd.prog w = .ok v w := by
  have hc := h.cell
  simp [go_sem, loadVar, hc, ha]
theorem results_c1 {fn : Func} {p : Tmp} {t : TypeId} (h : fn.results = #[.cell p t]) (ha : ∀ w, (isAgg t).run Tryd.prog w = .ok false w) (tmps : Array Value) (w : World) (g : Nat) (v : Value) (hp : tmps.getD p undef = .pointer (some ⟨g, 0, none⟩)) (h1 : Ce w g t v) :
    (results fn tmps).run Tryd.prog w = .ok v w := by
  have hp' : tmps[p]?.getD undef = .pointer (some ⟨g, 0, none⟩) := by simpa using hp
  simp [results, h, hp', asAddr, load_ce ha h1]

set_option maxRecDepth 100000 in
set_option maxHeartbeats 2000000 in
theorem valid11 (w : World) (hT : Lib.Utf8Tabs 0 1 w) (s : ByteArray) (hs : s.size ≤ 9223372036854775807) :
    Calls Tryd.prog 22 #[.string s] w fun e w' => e = .returned (.bool (vd s.data.toList)) ∧ Keeps (fun _ => False) w w' := by
  obtain ⟨ANS, hANS⟩ : ∃ ANS, vd s.data.toList = ANS := ⟨_, rfl⟩
  rw [hANS]
  have HA : Hid (vd s.data.toList = ANS) := hANS
  clear hANS
  refine (callsIn_wide (n := 9)).1 ?_
  refine callsIn_of_wp_marks Tryd.func22 rfl trivial ?_ rfl
  simp only [Tryd.ntmps22, List.size_toArray, List.length_cons, List.length_nil, Nat.reduceAdd, Nat.reduceSub, Array.replicate_succ, Array.replicate_zero, List.push_toArray, List.append_toArray, List.nil_append, List.cons_append]
  gi_wp2_with (first
    | (refine wpListIn_allocC 4 (.bool false) zero4 rfl rfl rfl ?_; intro g2 w1 c1 z1 k1)
    | (refine ⟨trivial, ?_⟩; gi_at_call 36; refine (callsIn_wide.2 (signs22 _ s)).mono ?_; rintro e w5 ⟨bk, rfl, hbk, zk, lk, k5⟩))
  have K5 : Keeps (fun _ => False) w w5 := k1.trans k5
  have hT5 := Tabs.keep hT K5
  have hl := Tabs.lt hT
  have c5 := c1.keep k5
  have l2 := c5.lt
  have n2 : g2 ≠ bk := by have := c1.lt; omega
  have zb : w.heap.size ≤ bk := by have := k1.size; omega
  clear k1 k5 c1 zk
  clear w1
  refine range_m (gf := 48) (lb := #[.pointer (some ⟨bk, 0, none⟩)]) rfl (enters_of Tryd.func48 (by kernel_rfl) rfl) (bk := bk) lk (sgn26 (fun _ => False) w5 bk s hs hT5 hbk (fun h => h) (fun h => h) (fun h => h) (by omega)) ?hKt ?hKb (RowKit.Below.refl _ _) (fun _ => rfl)
    (fun pre V => (∀ y ∈ pre, y.2 = true) ∧ Keeps (· = bk) w5 V)
    (fun cd pre V => cd = .ret ∧ (∃ y ∈ pre, y.2 = false) ∧ Ce V g2 4 (.bool false) ∧ Keeps (fun k => k = bk ∨ k = g2) w5 V) ?hI ?hIw ?hIx ⟨by simp, Keeps.refl _ _⟩
    (fun pre x a' V => (∀ y ∈ pre, y.2 = true) ∧ Keeps (· = bk) w5 V ∧ a' = { tmps := #[.string s, undef, .pointer (some ⟨g2, 0, none⟩), undef, .bool x.2, .string s, .func (.func 48) #[] #[.pointer (some ⟨bk, 0, none⟩)], .int .i64 x.1, .bool x.2, undef, undef], defers := [] }) ?hAx ?assign ?body ?done ?stop
  case hKt => exact fun h1 h2 => h1.trans h2
  case hKb => exact fun W l o o' _ ho hc => KpX.putObj o' ho hc
  case hI => exact fun s A B row h hg hr => ⟨h.1, own_keeps hg hr h.2 (Nat.le_refl _)⟩
  case hIw => exact fun pre A v h => ⟨h.1, h.2.setCell (p := ⟨bk, 0, none⟩) (.inl rfl) v⟩
  case hIx =>
    rintro cd s A B row ⟨h1, h2, h3, h4⟩ hg hr
    exact ⟨h1, h2, ⟨own_cells hg hr h3.row⟩, own_keeps hg hr h4 (Nat.le_refl _)⟩
  case hAx =>
    rintro pre x a' _ A B row ⟨h1, h2, h3⟩ hg hr
    exact ⟨h1, own_keeps hg hr h2 (Nat.le_refl _), h3⟩
  case assign =>
    rintro l' pre x rest V K hx ⟨h1, h2⟩ hK'
    have HK : Hid (∀ a' W', _ → _ → _ → K a' W') := hK'
    clear hK' hx
    simp only [encY]
    gi_wp2
    have k0 := Keeps.refl (fun _ => False) V
    exact HK.out _ _ (k0.from (fun _ _ h => h.elim)) (k0.kpx (fun _ h => h.elim)) ⟨h1, h2, rfl⟩
  case body =>
    rintro l' pre x rest a' V hl' hx ⟨h1, h2, rfl⟩
    have H1 : Hid (∀ y ∈ pre, y.2 = true) := h1
    obtain ⟨x1, x2⟩ := x
    dsimp only
    clear hx h1
    cases x2 with
    | false =>
      have v2 := c5.keeps h2 n2
      have f2 := v2.live
      have q2 := v2.cell
      gi_wp2
      have kk : Keeps (fun k => k = bk ∨ k = g2) V (V.setCell ⟨g2, 0, none⟩ (.bool false)) := (Keeps.refl _ V).setCell (p := ⟨g2, 0, none⟩) (.inl (.inr rfl)) _
      refine ⟨kk.from (fun k hk e => by omega), rfl, ⟨(x1, false), by simp, rfl⟩, v2.set _, (h2.mono (fun _ _ h => .inl h)).trans kk⟩
    | true =>
      gi_wp2
      have k0 := Keeps.refl (fun _ => False) V
      refine ⟨k0.from (fun _ _ h => h.elim), k0.kpx (fun _ h => h.elim), ?_, h2⟩
      have Hall : ∀ y ∈ pre ++ [(x1, true)], y.2 = true := by
        intro y hy
        rcases List.mem_append.1 hy with hy | hy
        · exact H1.out y hy
        · obtain rfl : y = (x1, true) := by simpa using hy
          rfl
      first | exact Hall | (intro a b h; exact Hall (a, b) h) | (simpa using Hall)
  case done =>
    rintro D V hD' ⟨h1, h2⟩ hd
    have hR : Hid (ANS = true) := by
      show _ = _
      rw [← HA.out]
      unfold vd
      rw [List.all_eq_true]
      exact h1
    have v2 := c5.keeps h2 n2
    have f2 := v2.live
    have q2 := v2.cell
    clear h1
    gi_wp2
    have kk : Keeps (fun k => k = bk ∨ k = g2) V (V.setCell ⟨g2, 0, none⟩ (.bool true)) := (Keeps.refl _ V).setCell (p := ⟨g2, 0, none⟩) (.inl (.inr rfl)) _
    have hd4 := kk.row hd (by omega)
    refine ⟨by simp, .inl ⟨_, _, rfl, run_takeDeferred hd4, ?_⟩⟩
    refine ⟨_, results_c1 rfl Tryd.isAgg4 _ _ g2 (.bool true) rfl ((v2.set _).put (by omega) _), by rw [hR.out], ?_⟩
    exact K5.trans' (((h2.mono (fun _ _ h => .inl h)).trans kk).grown (grownBy_putObj' _ D _) (fun k e => by cases e; exact .inr hD')) (fun k e => .inr (by omega))
  case stop =>
    rintro D cd pre x rest V hD' hx ⟨rfl, ⟨y, hy, hy2⟩, h3, h4⟩ hd
    have hR : Hid (ANS = false) := by
      show _ = _
      rw [← HA.out]
      unfold vd
      rw [List.all_eq_false]
      exact ⟨y, by rw [hx]; rcases List.mem_append.1 hy with h | h; simp [h]; simp at h; simp [h], by simp [hy2]⟩
    clear hx hy hy2
    gi_wp2
    refine ⟨by simp, .inl ⟨_, _, rfl, run_takeDeferred hd, ?_⟩⟩
    refine ⟨_, results_c1 rfl Tryd.isAgg4 _ _ g2 (.bool false) rfl (h3.put (by omega) _), by rw [hR.out], ?_⟩
    exact K5.trans' (h4.grown (grownBy_putObj' V D _) (fun k e => by cases e; exact .inr hD')) (fun k e => .inr (by omega))

end Go.Proofs.YtkcnnkakpkdhkaaDoor
