/-
  DiskFuses: the walk.
-/
import Derived.Test.YtokgnfniaeeloaaSc
set_option linter.all false
namespace Go.Proofs.Ytokgnfniaeeloaa
open Go.RowKit Go.Shelf

/-- A disk of 16 blocks whose fuse was K. -/
structure FI (K : Int) (s : DS) : Prop where
  n : s.n = 16
  F : s.F = K - s.dc
  lo : 0 ≤ s.dc
  hi : s.dc ≤ K
  dn : s.dn = true → s.dc = K

theorem fi_write {K : Int} {s : DS} (h : FI K s) (i : Int) (b : List Value) (h0 : 0 ≤ i) (h1 : i < 16) : ∃ c s', s.write i b = (c, s') ∧ FI K s' ∧ s'.ws.length ≤ s.ws.length + 1 ∧
    ((s.dc < K ∧ c = 0 ∧ s'.dc = s.dc + 1 ∧ s'.dn = false) ∨ (¬ s.dc < K ∧ c = 12 ∧ s'.dc = s.dc ∧ s'.dn = true)) := by
  have hn := h.n
  have hF := h.F
  have hhi := h.hi
  have hlo := h.lo
  unfold DS.write
  rw [if_neg (by rw [hn]; omega)]
  by_cases hk : s.dc < K
  · have hd : s.dn = false := by cases hd : s.dn with | false => rfl | true => have := h.dn hd; omega
    rw [if_neg (by rw [hd]; simp; omega)]
    have hb : burnt s.F = s.F - 1 := by unfold burnt; rw [if_pos (by omega)]
    refine ⟨_, _, rfl, ⟨hn, ?_, ?_, ?_, ?_⟩, by simp, .inl ⟨hk, rfl, rfl, hd⟩⟩
    · show burnt s.F = K - (s.dc + 1); rw [hb]; omega
    · show 0 ≤ s.dc + 1; omega
    · show s.dc + 1 ≤ K; omega
    · intro e; rw [show s.dn = true from e] at hd; cases hd
  · rw [if_pos (.inl (by omega))]
    exact ⟨_, _, rfl, ⟨hn, hF, hlo, hhi, fun _ => by show s.dc = K; omega⟩, by simp, .inr ⟨hk, rfl, rfl, rfl⟩⟩

theorem fi_sync {K : Int} {s : DS} (h : FI K s) : ∃ c s', s.sync = (c, s') ∧ FI K s' ∧ s'.ws.length ≤ s.ws.length + 1 ∧
    ((s.dc < K ∧ c = 0 ∧ s'.dc = s.dc + 1 ∧ s'.dn = false) ∨ (¬ s.dc < K ∧ c = 12 ∧ s'.dc = s.dc ∧ s'.dn = true)) := by
  have hn := h.n
  have hF := h.F
  have hhi := h.hi
  have hlo := h.lo
  unfold DS.sync
  by_cases hk : s.dc < K
  · have hd : s.dn = false := by cases hd : s.dn with | false => rfl | true => have := h.dn hd; omega
    rw [if_neg (by rw [hd]; simp; omega)]
    have hb : burnt s.F = s.F - 1 := by unfold burnt; rw [if_pos (by omega)]
    refine ⟨_, _, rfl, ⟨hn, ?_, ?_, ?_, ?_⟩, by simp, .inl ⟨hk, rfl, rfl, hd⟩⟩
    · show burnt s.F = K - (s.dc + 1); rw [hb]; omega
    · show 0 ≤ s.dc + 1; omega
    · show s.dc + 1 ≤ K; omega
    · intro e; rw [show s.dn = true from e] at hd; cases hd
  · rw [if_pos (.inl (by omega))]
    exact ⟨_, _, rfl, ⟨hn, hF, hlo, hhi, fun _ => by show s.dc = K; omega⟩, by simp, .inr ⟨hk, rfl, rfl, rfl⟩⟩

theorem fi_new (K : Int) (h0 : 0 ≤ K) : FI K ((DS.new 16).fuse K) := ⟨rfl, by show max K (-1) = K - 0; omega, by show (0 : Int) ≤ 0; omega, h0, fun e => by cases e⟩

theorem read_row {s : DS} (h : s.Ok) (i : Int) : (s.read i).1.size = 128 ∧ (s.read i).1.all (·.oneCell') = true := by
  unfold DS.read
  split
  · exact ⟨size_fill 0, fill_one 0⟩
  · rename_i hr
    split
    · exact ⟨size_fill 0, fill_one 0⟩
    · show (s.block i.toNat).size = 128 ∧ (s.block i.toNat).all (·.oneCell') = true
      unfold DS.block
      cases hf : s.ws.reverse.find? (fun x => x.1 == (i.toNat : Int)) with
      | some x =>
        have hm : x ∈ s.ws := by simpa using List.mem_of_find?_eq_some hf
        have := (h.lw x hm).1
        exact ⟨by simp [this.1], all_oneCell_toArray this.2⟩
      | none =>
        have hsz := h.size
        have hmul : (i.toNat + 1) * 128 ≤ s.n * 128 := Nat.mul_le_mul_right 128 (by omega)
        refine ⟨by simp; omega, ?_⟩
        have h1 := h.one
        unfold AllOne at h1
        rw [Array.all_eq_true_iff_forall_mem] at h1 ⊢
        intro v hv
        obtain ⟨j, hj, e⟩ := Array.mem_iff_getElem.1 hv
        rw [Array.getElem_extract] at e
        exact h1 v (e ▸ Array.getElem_mem _)

attribute [local go_sem ↓] wp_build37

set_option maxRecDepth 100000 in
set_option maxHeartbeats 4000000 in
theorem fuses_any (w : World) (n : Int) (hn : 0 ≤ n ∧ n ≤ 255) (v : Value) (xs : List StepV) (h : StepsAt w v xs) (hlen : xs.length ≤ 9223372036854775807) :
    Calls Try.prog 5 #[.int .u8 n, v] w fun e w' => e = .returned (.bool true) ∧ Keeps (fun _ => False) w w' := by
  obtain ⟨sa, scap, rfl, hx0⟩ := id h
  go_enter Try.func5, Try.ntmps5
  go_wp2_with fail
  refine (new_ds 16 w (by omega) (by omega) none' (fun _ h => h.elim)).mono ?_
  rintro e w1 ⟨rfl, hL, hs1, hK⟩
  clear hs1
  go_wp2_with fail
  refine (fair_any w1 _ xs (h.keeps hK) hlen).mono ?_
  rintro e w' ⟨rfl, rfl⟩
  cases hf : fairB xs with
  | false =>
    go_wp2_with (go_at_call 11; refine (wakes_any _).mono ?_; rintro e w3 ⟨rfl, k3⟩)
    go_ret
    exact ⟨rfl, hK.trans k3⟩
  | true =>
    obtain ⟨hl200, hk300⟩ := fairB_spec hf
    have H0 : Hid (StepsAt w (.slice sa xs.length scap) xs) := h
    clear hf h hx0 hk300
    go_wp2_with fail
    obtain ⟨K, hKK⟩ : ∃ K, n % 30 = K := ⟨_, rfl⟩
    have hK0 : 0 ≤ K := by omega
    have hK30 : K < 30 := by omega
    rw [hKK]
    clear hKK
    refine (fuse_ds hL K).mono ?_
    rintro e w2 ⟨rfl, hL2, hK2⟩
    replace hK := onKeep hK hK2
    clear hL hK2
    go_wp2
    go_loopw [8, 9] (fun dn i wr => ∃ (k : Nat) (s : DS), k ≤ xs.length ∧ i = .int .i64 (k : Int) ∧ dn = .int .i64 s.dc ∧ Lies w.heap.size none' wr (w.heap.size + 1) w.heap.size s ∧ s.Ok ∧ FI K s ∧ s.ws.length ≤ k ∧ Keeps (fun _ => False) w wr) (fun _ i _ => xs.length - (intOf i).toNat)
    case atStart => exact ⟨0, (DS.new 16).fuse K, Nat.zero_le _, rfl, rfl, hL2, (DS.Ok.new 16).fuse K (by omega), fi_new K hK0, by simp [DS.new, DS.fuse], hK⟩
    case round =>
      obtain ⟨k, s, hk, rfl, rfl, hLr, hok, hfi, hw1, hKr⟩ := hrel
      clear hL2 hK
      have hd0 := hfi.lo
      have hd1 := hfi.hi
      by_cases hlt : k < xs.length
      · obtain ⟨sa', scap', e0, hx0⟩ := H0.out.keeps hKr
        cases e0
        obtain ⟨b, o, rfl, hs⟩ := hx0 k xs[k] (by simp [hlt])
        obtain ⟨x, hxk⟩ : ∃ x, xs[k] = x := ⟨_, rfl⟩
        rw [hxk] at hs
        have hlt' : (k : Int) < (xs.length : Int) := by omega
        have hk0 : (0 : Int) ≤ (k : Int) := by omega
        have hkl : k < 200 := by omega
        have hbw : b < wr.heap.size := World.block_lt_of_cell? wr _ hs.c0
        have hbw0 : b < w.heap.size := by
          obtain ⟨_, _, e1, hy0⟩ := H0.out
          cases e1
          obtain ⟨b2, o2, e2, hs2⟩ := hy0 k xs[k] (by simp [hlt])
          cases e2
          exact World.block_lt_of_cell? w _ hs2.c0
        obtain ⟨c0, c1, c2, c3, ckeep, chi, chv⟩ := hs
        have hnb : ¬ w.heap.size ≤ b := by omega
        clear hx0 hxk c3 ckeep
        have hkind : x.kind = 0 ∨ x.kind = 2 ∨ ((x.kind == 0) = false ∧ (x.kind == 2) = false) := by
          simp only [beq_eq_false_iff_ne]; omega
        rcases hkind with hkd | hkd | ⟨q0, q2⟩
        · rw [hkd] at c0
          have hm0 : 0 ≤ x.i % 5 := by omega
          have hm5 : x.i % 5 < 16 := by omega
          obtain ⟨c, s', hws, hfi', hwl, hcs⟩ := fi_write hfi (x.i % 5) (fill x.v).toList hm0 hm5
          have hok' := hok.write (x.i % 5) (fill x.v).toList (ok_fill x.v)
          rw [hws] at hok'
          have Hws : Hid (s.write (x.i % 5) (fill x.v).toList = (c, s')) := hws
          have hwsz := hKr.size
          clear hws
          go_wp2_with fail
          go_region_held3 (fun w' => w'.cell? ⟨b, o + k * 4 + 1, none⟩ = some (.int .i64 x.i) ∧ w'.cell? ⟨b, o + k * 4 + 2, none⟩ = some (.int .u8 x.v))
            (first | assumption | exact ⟨c1, c2⟩ | exact ⟨cell_keeps hkf c1 (fun h => h), cell_keeps hkf c2 (fun h => h)⟩ | exact ⟨cell_keeps hK6 (cell_keeps hkf c1 (fun h => h)) (fun h => hnb h.1), cell_keeps hK6 (cell_keeps hkf c2 (fun h => h)) (fun h => hnb h.1)⟩)
            (first | (go_at_call 28; refine (mod_any _ _ 5 (by omega) (by omega) chi.1 chi.2).mono ?_; rintro e w4 ⟨rfl, rfl⟩) | (go_at_call 15; refine (fill_any _ _).mono ?_; rintro e w5 ⟨rfl, hkf⟩) | (go_at_call 14; refine (write_fill (hLr.kept (((Keeps.refl _ _).drew).trans hkf)) hok (fun k e => e.elim) (by have := hkf.size; simp at this; omega) ⟨hd0, by omega⟩ (by omega) _ _).mono ?_; rw [Hws.out]; rintro e w6 ⟨rfl, hL6, hK6⟩))
          have hKf : Keeps (fun _ => False) w w6 := ((hKr.drew).trans hkf).trans' hK6 (fun k e => .inr e.1)
          clear hLr c0 c1 c2 hkf hK6 hfi
          rcases hcs with ⟨hlK, rfl, hdc', hdn'⟩ | ⟨hlK, rfl, hdc', hdn'⟩
          · have Hdc : Hid (s'.dc = s.dc + 1) := hdc'
            clear hdc'
            go_wp2_with (first | (go_at_call 26; refine (down_ds hL6).mono ?_; rw [hdn']; rintro e w7 ⟨rfl, rfl⟩))
            go_roundw
            case rel => exact ⟨k + 1, s', by omega, by go_num, by rw [Hdc.out], hL6, hok', hfi', by omega, hKf⟩
            case measure => simp [intOf]; omega
          · have Hdc : Hid (s'.dc = s.dc) := hdc'
            clear hdc'
            go_wp2_with (first | (go_at_call 26; refine (down_ds hL6).mono ?_; rw [hdn']; rintro e w7 ⟨rfl, rfl⟩))
            go_roundw
            case rel => exact ⟨k + 1, s', by omega, by go_num, by rw [Hdc.out], hL6, hok', hfi', by omega, hKf⟩
            case measure => simp [intOf]; omega
        · rw [hkd] at c0
          obtain ⟨c, s', hws, hfi', hwl, hcs⟩ := fi_sync hfi
          have hok' := hok.sync
          have hsy := sync_ds hLr hok (by omega) ⟨hd0, by omega⟩
          rw [hws] at hok' hsy
          clear hws c1 c2
          go_wp2_with fail
          refine hsy.mono ?_
          rintro e w6 ⟨rfl, hL6, hK6⟩
          have hKf := onKeep hKr hK6
          clear hsy hLr c0 hK6 hfi
          rcases hcs with ⟨hlK, rfl, hdc', hdn'⟩ | ⟨hlK, rfl, hdc', hdn'⟩
          · have Hdc : Hid (s'.dc = s.dc + 1) := hdc'
            clear hdc'
            go_wp2_with (first | (go_at_call 26; refine (down_ds hL6).mono ?_; rw [hdn']; rintro e w7 ⟨rfl, rfl⟩))
            go_roundw
            case rel => exact ⟨k + 1, s', by omega, by go_num, by rw [Hdc.out], hL6, hok', hfi', by omega, hKf⟩
            case measure => simp [intOf]; omega
          · have Hdc : Hid (s'.dc = s.dc) := hdc'
            clear hdc'
            go_wp2_with (first | (go_at_call 26; refine (down_ds hL6).mono ?_; rw [hdn']; rintro e w7 ⟨rfl, rfl⟩))
            go_roundw
            case rel => exact ⟨k + 1, s', by omega, by go_num, by rw [Hdc.out], hL6, hok', hfi', by omega, hKf⟩
            case measure => simp [intOf]; omega
        · have hz := zero37
          have hs0 : (Try.prog.info? 37).map (·.size) = some (fill 0).size := by rw [size_fill]; exact size37
          clear c1 c2
          have hrd := read_ds hLr hok (by omega) 0
          obtain ⟨vv, cc, hvv⟩ : ∃ vv cc, s.read 0 = (vv, cc) := ⟨_, _, rfl⟩
          have hcc : (cc == 12) = s.dn := by
            unfold DS.read at hvv
            rw [if_neg (by rw [hfi.n]; omega)] at hvv
            cases hd : s.dn with
            | true => rw [hd] at hvv; cases hvv; rfl
            | false => rw [hd] at hvv; cases hvv; rfl
          have hvs : vv.size = 128 ∧ vv.all (·.oneCell') = true := by
            have := read_row hok 0
            rw [hvv] at this
            exact this
          rw [hvv] at hrd
          go_wp2_with fail
          refine hrd.mono ?_
          rintro e w6 ⟨rfl, hk6⟩
          clear hrd hvv
          have hs1 : (Try.prog.info? 37).map (·.size) = some vv.size := by rw [hvs.1]; exact size37
          have hz1 : (fill 0).size = vv.size := by rw [hvs.1]; exact size_fill 0
          have ho1 := hvs.2
          have hL6 := hLr.kept hk6
          have hKf := hKr.trans hk6
          clear hk6 hvs hLr hKr c0 hs0
          go_wp2_with (first | (refine wpList_store_row rfl 37 _ _ rfl w6.heap.size rfl vv rfl 37 (fill 0) (heap_alloc2_x w6 _) hs1 hz1 ho1 ?_; intro w8 n8 k8; have k0 : Keeps (fun _ => False) w6 w8 := (((Keeps.refl _ _).alloc _).trans' k8 (fun k e => .inr (by omega))); have hL8 := hL6.kept k0; have hK8 := hKf.trans k0) | (go_at_call 26; refine (down_ds hL8).mono ?_; rintro e w7 ⟨rfl, rfl⟩))
          exact ⟨⟨k + 1, s, by omega, by go_num, rfl, hL8, hok, hfi, by omega, hK8⟩, by simp [intOf]; omega⟩
      · obtain rfl : k = xs.length := by omega
        go_wp2_with fail
        refine (crash_ds hLr hok (by omega) none 0 [] 0 (fun j x hx => by simp at hx) (fun b o e => by cases e)).mono ?_
        rintro e w6 ⟨rfl, hL6, hK6⟩
        have hKf := onKeep hKr hK6
        have hok' := hok.crash [] 0
        obtain ⟨s', hs'⟩ : ∃ s', s.crash [] 0 = s' := ⟨_, rfl⟩
        have hdc : s'.dc = s.dc := by rw [← hs']; rfl
        have hdn : s'.dn = false := by rw [← hs']; rfl
        have hws' : s'.ws.length = 0 := by rw [← hs']; rfl
        have hwr : (s'.write 0 (fill 0).toList).1 = 0 := by
          rw [← hs']
          unfold DS.write
          rw [if_neg (by rw [show (s.crash [] 0).n = s.n from rfl, hfi.n]; omega), if_neg (by rw [show (s.crash [] 0).dn = false from rfl, show (s.crash [] 0).F = -1 from rfl]; simp)]
        rw [hs'] at hL6 hok'
        have hwf := fun w1 (hk : Keeps (fun _ => False) w6 w1) => write_fill (hL6.kept hk) hok' (fun k e => e.elim) (by have := hKf.size; have := hk.size; omega) (by rw [hdc]; exact ⟨hd0, by omega⟩) (by omega) 0 0
        rw [hwr] at hwf
        clear hs' hLr hK6 hKr hwr
        have hz := zero37
        go_wp2_with fail
        refine (down_ds hL6).mono ?_
        rw [hdn]
        rintro e w7 ⟨rfl, rfl⟩
        go_wp2_with fail
        refine (done_ds hL6).mono ?_
        rw [hdc]
        rintro e w7 ⟨rfl, rfl⟩
        have hwf' := hwf _ (Keeps.refl _ _)
        clear hwf
        go_wp2_with (first | (go_at_call 14; refine hwf'.mono ?_; rintro e w9 ⟨rfl, hL9, hK9⟩) | (go_at_call 11; refine (wakes_any _).mono ?_; rintro e w10 ⟨rfl, k10⟩))
        go_ret
        exact ⟨rfl, (onKeep hKf hK9).trans k10⟩

end Go.Proofs.Ytokgnfniaeeloaa
