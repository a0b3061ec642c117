/-
  All bytes of a logical block, as load tells them.
  Open of a log: what it needs beside the walk.
  Open of a log: what lies in memory while the frames are gathered.
  A region that draws its order, in a round of a range over a function: it goes as anywhere.
-/
import Derived.Test.YtkfecngkdlajgaaGreatDoorQH
import Derived.Test.YtkfecngkdlajgaaGreatDoorKQ
import Derived.Test.YtkfecngkdlajgaaGreatDoorQD
import Derived.OwnWalkIn
namespace Go.Proofs.YtkfecngkdlajgaaGreatDoor
open Go.RowKit Go.Extern.Stop Go.Stop Go.Extern
set_option maxRecDepth 10000

/-- The pages of a logical block: each has all its bytes, and bytes they are. -/
theorem Ms.pages {base t : Nat} {w : World} {m : Mg} {c : CS} {P : List (List (List Nat))} (h : Ms base t w m c P) (leb : Int) : ∀ l ∈ (cont m.bl P leb).getD [], l.length = c.gz ∧ ∀ x ∈ l, x < 256 := by
  rcases find_home h.rp leb with ⟨_, hc, _⟩ | ⟨i, x, p', hf, hx, h4, he, hpi, hc, hh, hu, hcl⟩
  · rw [hc]; simp
  · rw [hc]
    simp only [Option.getD_some]
    intro l hl
    obtain ⟨b, p2, hb, hp2, hk2, _⟩ := h.rp.mapped hx h4
    rw [hpi] at hp2
    cases hp2
    obtain ⟨_, _, _, _, _, _, _, _, _, _, _, _, _, h9, h10⟩ := bok_mapped hk2 h4
    refine ⟨h10 l hl, ?_⟩
    obtain ⟨k, hk, e⟩ := List.getElem_of_mem hl
    obtain ⟨pg, hpg, hby, _⟩ := h9 k l (by rw [List.getElem?_eq_getElem hk, e])
    have hd := (h.ml.chip.good.dat b (List.mem_of_getElem? hb) pg (List.mem_of_getElem? hpg)).2
    rw [← hby]
    intro y hy
    unfold Pg.bytes at hy
    split at hy
    · have := (List.mem_replicate.1 hy).2; omega
    split at hy
    · rcases List.mem_append.1 hy with hy | hy
      · exact hd y hy
      · have := (List.mem_replicate.1 hy).2; omega
    · simp at hy
theorem flat_lens {gz : Nat} : ∀ {l : List (List Nat)}, (∀ x ∈ l, x.length = gz) → l.flatten.length = gz * l.length
  | [], _ => by simp
  | x :: r, h => by
    simp only [List.flatten_cons, List.length_append, List.length_cons]
    rw [flat_lens (fun y hy => h y (List.mem_cons_of_mem _ hy)), h x (List.mem_cons_self ..), Nat.mul_add]
    omega
theorem home_used {base t : Nat} {w : World} {m : Mg} {c : CS} {P : List (List (List Nat))} (h : Ms base t w m c P) (leb : Int) : (homeB m.bl leb).used = (((cont m.bl P leb).getD []).length : Nat) := by
  rcases find_home h.rp leb with ⟨_, hc, hz⟩ | ⟨i, x, p', hf, hx, h4, he, hpi, hc, hh, hu, hcl⟩
  · rw [hc, hz]; rfl
  · rw [hc, hh, hu]; rfl
/-- Read of the first page goes through, whatever stands there. -/
theorem read_first {base t : Nat} {w : World} {m : Mg} {c : CS} {P : List (List (List Nat))} (h : Ms base t w m c P) (leb : Int) (h0 : 0 ≤ leb) (hleb : leb + c.gr + 2 < c.gb) :
    Calls Tryz.prog 138 #[.pointer (some ⟨m.p, 0, none⟩), .int .i64 leb, .int .i64 0] w fun e w' => ∃ a k cap, e = .returned (.tuple #[.slice a k cap, .int .i64 0]) ∧ Ms base t w' m c P ∧ Kept (fun q => q = m.p) w w' := by
  have hg := h.rp.rb.geo
  cases hp : cont m.bl P leb with
  | none =>
    have hu := home_used h leb
    rw [hp] at hu
    have k := mread_blank h.ml h.rp.lost h.rp.rb.on (by omega) leb 0 (h.has h0 hleb) (by omega) (by rw [hu]; simp)
    refine k.mono ?_
    rintro e w' ⟨a, k, cap, rfl, hr⟩
    exact ⟨a, k, cap, rfl, h.rd hr, hr.kp⟩
  | some p =>
    cases p with
    | nil =>
      have hu := home_used h leb
      rw [hp] at hu
      have k := mread_blank h.ml h.rp.lost h.rp.rb.on (by omega) leb 0 (h.has h0 hleb) (by omega) (by rw [hu]; simp)
      refine k.mono ?_
      rintro e w' ⟨a, k, cap, rfl, hr⟩
      exact ⟨a, k, cap, rfl, h.rd hr, hr.kp⟩
    | cons l r =>
      have k := read_go h leb 0 h0 hleb (l :: r) hp l rfl
      refine k.mono ?_
      rintro e w' ⟨a, k, cap, rfl, hr⟩
      exact ⟨a, k, cap, rfl, h.rd hr, hr.kp⟩
/-- What load leaves behind k pages: its row of bytes. -/
structure Ldd (base t : Nat) (w : World) (m : Mg) (c : CS) (P : List (List (List Nat))) (D g : Nat) (d : List Nat) (w' : World) : Prop where
  ms : Ms base t w' m c P
  kp : Kept (fun q => q = m.p) w w'
  row : w'.ownsRow w.heap.size 5 1 (.slice (some ⟨g, 0, none⟩) d.length D) d.length (d.map u8v)
theorem Ldd.later {base t : Nat} {w w1 w2 : World} {m : Mg} {c : CS} {P : List (List (List Nat))} {D g : Nat} {d : List Nat} (h : Ldd base t w m c P D g d w1) (hb : Below w1.heap.size w1 w2) : Ldd base t w m c P D g d w2 :=
  ⟨h.ms.later hb, h.kp.trans (.of_below hb), owns_later h.row hb⟩
theorem rdp_at {base : Nat} {w w' : World} {m : Mg} {c : CS} {l : List Nat} {a : Option Addr} {k cap : Nat} (h : RdP base w m c l a k cap w') (hl : 1 ≤ l.length) : ∃ b o, a = some ⟨b, o, none⟩ ∧ ∀ j u, (l.map u8v)[j]? = some u → w'.cell? ((⟨b, o, none⟩ : Addr).add j) = some u := by
  rcases h.row with e | ⟨b, o, e, hc⟩
  · rw [e] at hl; simp at hl
  · exact ⟨b, o, e, BRow.cells hc⟩
theorem ldd_more {base t : Nat} {w w6 w7 : World} {m : Mg} {c : CS} {P : List (List (List Nat))} {D g : Nat} {d l d' : List Nat} (h : Ldd base t w m c P D g d w6) (hd : d' = d ++ l)
    (hown : w7.ownsRow w.heap.size 5 1 (.slice (some ⟨g, 0, none⟩) (d.length + l.length) D) (d.length + l.length) (d.map u8v ++ l.map u8v)) (hg : w6.grownBy w7 (some g)) (hmp : m.p < w.heap.size) : Ldd base t w m c P D g d' w7 := by
  have hrow := lown_row h.row (g := g) rfl
  have hk := kept_grow1 hg
  have hge : w.heap.size ≤ g := hrow.1
  have hb := h.ms.ml.low.1
  refine ⟨h.ms.beside hk (fun k e => by subst e; obtain ⟨_, cs, hr⟩ := hrow; exact ⟨_, _, hr, by decide, by decide, by decide, by decide, by decide, by decide⟩) (fun k e => by subst e; omega), ⟨hk.os.trans h.kp.os, hk.tape.trans h.kp.tape, hk.output.trans h.kp.output, Nat.le_trans h.kp.size hk.size, fun k h1 h2 => (hk.block k (Nat.lt_of_lt_of_le h1 h.kp.size) (by omega)).trans (h.kp.block k h1 h2)⟩, ?_⟩
  · rw [hd, List.length_append, List.map_append]; exact hown
set_option maxHeartbeats 8000000 in
theorem ld_go {base t : Nat} {w : World} {m : Mg} {c : CS} {P : List (List (List Nat))} (h : Ms base t w m c P) (leb : Int) (h0 : 0 ≤ leb) (hleb : leb + c.gr + 2 < c.gb) :
    Calls Tryz.prog 94 #[.pointer (some ⟨m.p, 0, none⟩), .int .i64 leb] w fun e w' => ∃ g, e = .returned (.tuple #[.slice (some ⟨g, 0, none⟩) ((cont m.bl P leb).getD []).flatten.length ((c.gp - 2) * c.gz), .int .i64 0]) ∧ Ldd base t w m c P ((c.gp - 2) * c.gz) g ((cont m.bl P leb).getD []).flatten w' := by
  have hg := h.rp.rb.geo
  have kR := read_first h leb h0 hleb
  have hpl := h.page_le leb
  have hpg := h.pages leb
  have HPs : Hid (∀ X, Ms base t X m c P → Calls Tryz.prog 74 #[.pointer (some ⟨m.p, 0, none⟩)] X fun e w' => e = .returned (.int .i64 ((c.gp : Int) - 2)) ∧ Below X.heap.size X w') := fun X hX => mpages_any hX.ml (by omega)
  have HPg : Hid (∀ X, Ms base t X m c P → Calls Tryz.prog 67 #[.pointer (some ⟨m.p, 0, none⟩)] X fun e w' => e = .returned (.int .i64 (c.gz : Nat)) ∧ Below X.heap.size X w') := fun X hX => mpage_any hX.ml
  obtain ⟨i0, hi, hz0, hz1, hz2⟩ := info_parts info8
  obtain ⟨D, hD⟩ : ∃ D, D = (c.gp - 2) * c.gz := ⟨_, rfl⟩
  have hDm : (c.gp - 2) * c.gz ≤ 62 * 512 := Nat.mul_le_mul (by omega) (by omega)
  have e1 : ((c.gp : Int) - 2) * (c.gz : Int) = (D : Int) := by rw [hD, Int.natCast_mul]; congr 1; omega
  have d2 : (D : Int) ≤ 31744 := by omega
  obtain ⟨L, hL⟩ : ∃ L, L = (cont m.bl P leb).getD [] := ⟨_, rfl⟩
  rw [← hD]
  rw [← hL] at hpl hpg ⊢
  have HUs : Hid (∀ X, Ms base t X m c P → Calls Tryz.prog 95 #[.pointer (some ⟨m.p, 0, none⟩), .int .i64 leb] X fun e w' => e = .returned (.int .i64 (L.length : Nat)) ∧ Below X.heap.size X w') := fun X hX => by rw [hL]; exact used_go hX leb
  have HRd : Hid (∀ k l X, L[k]? = some l → Ms base t X m c P → Calls Tryz.prog 138 #[.pointer (some ⟨m.p, 0, none⟩), .int .i64 leb, .int .i64 (k : Nat)] X fun e w' => ∃ a n cap, e = .returned (.tuple #[.slice a n cap, .int .i64 0]) ∧ RdP base X m c l a n cap w') := fun k l X hl hX => by
    cases hp : cont m.bl P leb with
    | none => rw [hp] at hL; rw [hL] at hl; simp at hl
    | some p =>
      rw [hp] at hL
      rw [hL] at hl
      exact read_go hX leb k h0 hleb p hp l hl
  have HF : Hid (∀ k, k ≤ L.length → (L.take k).flatten.length = c.gz * k ∧ c.gz * k ≤ D) := fun k hk => by
    refine ⟨?_, ?_⟩
    · rw [flat_lens (gz := c.gz) (fun x hx => (hpg x (List.mem_of_mem_take hx)).1), List.length_take, Nat.min_eq_left hk]
    · rw [hD, Nat.mul_comm]
      exact Nat.mul_le_mul_right _ (by omega)
  have HL : Hid (∀ k, k < L.length → ∃ l, L[k]? = some l ∧ l.length = c.gz ∧ (L.take (k + 1)).flatten = (L.take k).flatten ++ l) := fun k hk => ⟨L[k], List.getElem?_eq_getElem hk, (hpg _ (List.getElem_mem hk)).1, by rw [List.take_add_one, List.getElem?_eq_getElem hk, List.flatten_append]; show _ ++ [L[k]].flatten = _; rw [List.flatten_singleton]⟩
  have HMk : Hid (∀ X : World, w.heap.size ≤ X.heap.size → ∃ w', (Instr.makeSlice 56 (.int .i64 0) (.int .i64 (D : Int))).run Tryz.prog X = .ok (.slice (some ⟨X.heap.size, 0, none⟩) 0 D) w' ∧ w'.ownsRow w.heap.size 5 1 (.slice (some ⟨X.heap.size, 0, none⟩) 0 D) 0 [] ∧ X.grownBy w' none) := fun X hX =>
    run_make_own (P := Tryz.prog) (w := X) w.heap.size 56 5 i0 _ 1 Tryz.underlying56 hi hz0 hz1 .i64 .i64 D (by rw [hz2]; omega) (by unfold maxLen; omega) hX
  have HMp : Hid (m.p < w.heap.size) := h.ml.box.lt
  obtain ⟨n, hn⟩ : ∃ n, n = L.length := ⟨_, rfl⟩
  have HN : Hid (n = L.length) := hn
  rw [← hn] at hpl HUs HF HL
  have n1 : (n : Int) ≤ 64 := by omega
  have HZ : Hid (64 ≤ c.gz ∧ c.gz ≤ 512 ∧ D ≤ 31744) := by show _ ∧ _ ∧ _; omega
  clear h hleb h0 hD hDm hg hL hpg hn hpl
  go_enter Tryz.func94, Tryz.ntmps94
  go_wp2_with (first
    | (go_at_call 138; refine kR.mono ?_; rintro e w1 ⟨a1, k1, c1, rfl, hm1, hk1⟩; have H1 : Hid (Ms base t w1 m c P ∧ Kept (fun q => q = m.p) w w1) := (⟨hm1, hk1⟩ : _ ∧ _); clear hm1 hk1)
    | (go_at_call 74; refine (HPs.out _ H1.out.1).mono ?_; rintro e w2 ⟨rfl, hb2⟩; have H2 : Hid (Ms base t w2 m c P ∧ Kept (fun q => q = m.p) w w2) := (⟨H1.out.1.later hb2, H1.out.2.trans (.of_below hb2)⟩ : _ ∧ _); clear hb2)
    | (go_at_call 67; refine (HPg.out _ H2.out.1).mono ?_; rintro e w3 ⟨rfl, hb3⟩; have H3 : Hid (Ms base t w3 m c P ∧ Kept (fun q => q = m.p) w w3) := (⟨H2.out.1.later hb3, H2.out.2.trans (.of_below hb3)⟩ : _ ∧ _); obtain ⟨w4, hmk, hown4, hgr4⟩ := HMk.out w3 H3.out.2.size; have hb4 : Below w3.heap.size w3 w4 := ⟨hgr4.os, hgr4.tape, hgr4.output, hgr4.size, fun k hk => hgr4.block k hk (by simp)⟩; have H4 : Hid (Ldd base t w m c P D w3.heap.size [] w4) := (⟨H3.out.1.later hb4, H3.out.2.trans (.of_below hb4), hown4⟩ : Ldd _ _ _ _ _ _ _ _ _ _); clear hb3 hb4 hown4 hgr4)
    | (go_at_call 95; refine (HUs.out _ H4.out.ms).mono ?_; rintro e w5 ⟨rfl, hb5⟩; have H5 : Hid (Ldd base t w m c P D w3.heap.size [] w5) := H4.out.later hb5; clear hb5))
  go_loopg [8, 30] n (fun kx s8 s30 wr => ∃ k : Nat, k + kx = n ∧ s8 = .slice (some ⟨w3.heap.size, 0, none⟩) (c.gz * k) D ∧ s30 = .int .i64 (k : Nat) ∧ Hid (Ldd base t w m c P D w3.heap.size (L.take k).flatten wr))
  case atStart => exact ⟨0, by omega, by simp, rfl, H5.out⟩
  case round =>
    obtain ⟨k, hk, rfl, rfl, I⟩ := hrel
    by_cases hlt : k < n
    · obtain ⟨l, hl, hll, htk⟩ := HL.out k hlt
      have kRd := HRd.out k l wr hl I.out.ms
      have HTk : Hid ((L.take (k + 1)).flatten = (L.take k).flatten ++ l) := htk
      have hF1 := HF.out k (by omega)
      have hF2 := HF.out (k + 1) (by omega)
      have hE : c.gz * (k + 1) = c.gz * k + c.gz := by rw [Nat.mul_add, Nat.mul_one]
      have HLl : Hid (l.length = c.gz ∧ (L.take k).flatten.length = c.gz * k) := (⟨hll, hF1.1⟩ : _ ∧ _)
      obtain ⟨q, hq⟩ : ∃ q, q = c.gz * k := ⟨_, rfl⟩
      obtain ⟨z, hz⟩ : ∃ z, z = c.gz := ⟨_, rfl⟩
      rw [← hq] at ⊢
      have HQ : Hid (c.gz * (k + 1) = q + z) := by show _ = _; rw [hE, hq, hz]
      have HQ2 : Hid (q = c.gz * k ∧ z = c.gz) := (⟨hq, hz⟩ : _ ∧ _)
      have hroom : q + z ≤ D := by have := hF2.2; omega
      have hz64 : 64 ≤ z := by have := HZ.out; omega
      clear hq hz hl hll htk hF1 hF2 hE
      go_wp2_with (first
        | (go_at_call 138; refine kRd.mono ?_; rintro e w6 ⟨a6, n6, c6, rfl, hr6⟩; have H6 : Hid (RdP base wr m c l a6 n6 c6 w6) := hr6; have H6m : Hid (Ldd base t w m c P D w3.heap.size (L.take k).flatten w6) := (⟨I.out.ms.rd hr6, I.out.kp.trans hr6.kp, owns_kept I.out.row hr6.kp (fun g hg e => (by have := (lown_row I.out.row hg).1; have := HMp.out; omega))⟩ : Ldd _ _ _ _ _ _ _ _ _ _); obtain ⟨b6, o6, rfl, hcs⟩ := rdp_at hr6 (by have := HLl.out.1; have := HQ2.out.2; omega); have hn6 : n6 = z := (by have := hr6.len; have := HLl.out.1; have := HQ2.out.2; omega); subst hn6; have HCs : Hid (∀ j u, (l.map u8v)[j]? = some u → w6.cell? ((⟨b6, o6, none⟩ : Addr).add j) = some u) := hcs; have hO : w6.ownsRow w.heap.size 5 1 (.slice (some ⟨w3.heap.size, 0, none⟩) q D) q ((L.take k).flatten.map u8v) := (by have := H6m.out.row; rw [HLl.out.2, ← HQ2.out.1] at this; exact this); have HO := hidW hO; have HLn : Hid ((l.map u8v).length = n6 * 1) := (by show _ = _; rw [List.length_map, HLl.out.1, HQ2.out.2]; omega); clear hr6 hcs hO)
        | (at_builtin; refine wpList_append_fits _ rfl (.tmp 43) (.tmp 44) 56 rfl w.heap.size 5 i0 1 Tryz.underlying56 hi hz1 w3.heap.size q D _ rfl HO.out ⟨b6, o6, none⟩ n6 c6 (l.map u8v) rfl HLn.out HCs.out (u8v_one _) hroom ?_; intro w7 hown7 hgrow7; have H7 : Hid (Ldd base t w m c P D w3.heap.size (L.take (k + 1)).flatten w7) := ldd_more H6m.out HTk.out (by rw [HLl.out.1, HLl.out.2, ← HQ2.out.1, ← HQ2.out.2]; exact hown7) hgrow7 HMp.out; clear hown7 hgrow7))
      go_roundg (n - (k + 1))
      case measure => omega
      case rel => exact ⟨k + 1, by omega, by rw [HQ.out], by go_num, H7.out⟩
    · have hkn : k = n := by omega
      have HE : Hid (Ldd base t w m c P D w3.heap.size L.flatten wr) := by
        have := I.out
        rw [hkn, HN.out, List.take_length] at this
        exact this
      have HE2 : Hid (c.gz * k = L.flatten.length) := by
        have := (HF.out k (by omega)).1
        rw [hkn, HN.out, List.take_length] at this
        show _ = _
        rw [this, hkn, HN.out]
      clear I
      go_wp2_with fail
      go_ret2
      exact ⟨_, by rw [HE2.out]; rfl, HE.out⟩
end Go.Proofs.YtkfecngkdlajgaaGreatDoor
namespace Go.Proofs.YtkfecngkdlajgaaGreatDoor
open Go.RowKit Go.Extern.Stop Go.Stop Go.Extern
set_option maxRecDepth 10000

set_option maxHeartbeats 400000 in
theorem frames_mk (Br : Nat) (w : World) : Calls Tryz.prog 96 #[.pointer (some ⟨Br, 0, none⟩)] w fun e w' => e = .returned (.func (.func 140) #[] #[.pointer (some ⟨w.heap.size, 0, none⟩)]) ∧ w' = w.alloc (.cells #[.pointer (some ⟨Br, 0, none⟩)] 167) := by
  go_enter Tryz.func96, Tryz.ntmps96
  go_wp2
  go_ret
  exact ⟨rfl, rfl⟩
/-- Where nothing else was met, all was read. -/
theorem rdr_all (page : Nat) (hp : 2 ≤ page) (b : List Nat) (N : Nat) (hN : b.length = page * N) : ∀ (f q : Nat), q ≤ b.length → b.length < f + q → (rdr page b f q).2.2 = false → (rdr page b f q).2.1 = b.length := by
  intro f
  induction f with
  | zero => intro q h1 h2 _; omega
  | succ f ih =>
    intro q h1 h2 h3
    by_cases h : b.length ≤ q
    · rw [rdr_end h]; show q = _; omega
    · have h' : q < b.length := by omega
      cases hk : mrk b q with
      | true =>
        cases ho : okS page b q with
        | true =>
          rw [rdr_skip h' hk ho] at h3 ⊢
          have g1 := rup_ge (page := page) (q + 1) (by omega)
          exact ih _ (by rw [hN]; exact rup_fit (by omega) (by omega)) (by omega) h3
        | false => rw [rdr_skip_no h' hk ho] at h3; cases h3
      | false =>
        cases hf : isF b q with
        | false => rw [rdr_none h' hk hf] at h3; cases h3
        | true =>
          obtain ⟨a1, a2, a3, a4, a5⟩ := isF_facts hf
          have g1 := bgn_le page (fend b q)
          cases ho : okF page b q with
          | false => rw [rdr_frame_no h' hk hf ho] at h3; cases h3
          | true =>
            rw [rdr_frame h' hk hf ho] at h3 ⊢
            exact ih _ (by rw [hN]; exact bgn_fit hp (by omega)) (by omega) h3
theorem FrOk.cut {b : List Nat} {hi : Nat} {fs : List Fm} (h : FrOk b 0 hi fs) : FrOk (b.take hi) 0 hi fs := by
  refine ⟨h.rise, fun x hx => ?_⟩
  obtain ⟨h1, h2, h3, h4⟩ := h.at_ x hx
  refine ⟨h1, h2, ?_, h4⟩
  rw [List.drop_take, List.take_take, Nat.min_eq_left (by omega)]
  exact h3
end Go.Proofs.YtkfecngkdlajgaaGreatDoor
namespace Go.Proofs.YtkfecngkdlajgaaGreatDoor
open Go.RowKit Go.Extern.Stop Go.Stop Go.Extern
set_option maxRecDepth 10000

/-- The cells of a log that is being opened. -/
def oCells (mp leb np : Nat) (fv : Value) : List Value := [.pointer (some ⟨mp, 0, none⟩), .int .i64 (leb : Nat), .slice none 0 0, .int .i64 (np : Nat), fv, .bool false]
structure Opi (w0 : World) (mp b0 p Lx g leb np : Nat) (fv : Value) (pre : List Fm) (X : World) : Prop where
  lx : Row X Lx [.pointer (some ⟨p, 0, none⟩)] 78
  lb : Row X p (oCells mp leb np fv) 166
  frs : X.ownsRow b0 173 2 fv pre.length (pre.flatMap (fCells g))
  kp : Below w0.heap.size w0 X
  sz : b0 ≤ X.heap.size
theorem row_cells' {W : World} {B : Nat} {cs : List Value} {t : TypeId} (h : Row W B cs t) {o : Obj} (ho : W.heap[B]? = some o) : o.isCells = true := by
  obtain ⟨r, hr⟩ := h
  rw [hr] at ho
  cases ho
  rfl
theorem Opi.keep {S : Nat → Prop} {w0 A B : World} {mp b0 p Lx g leb np : Nat} {fv : Value} {pre : List Fm} (h : Opi w0 mp b0 p Lx g leb np fv pre A) (hk : Kept S A B) (h1 : ¬ S Lx) (h2 : ¬ S p) (h3 : ∀ k, b0 ≤ k → S k → ∃ o, A.heap[k]? = some o ∧ o.isCells = false) (hlow : ∀ k, S k → w0.heap.size ≤ k) : Opi w0 mp b0 p Lx g leb np fv pre B := by
  refine ⟨h.lx.kept hk h1, h.lb.kept hk h2, owns_kept h.frs hk (fun k hf hs => ?_), ⟨hk.os.trans h.kp.os, hk.tape.trans h.kp.tape, hk.output.trans h.kp.output, Nat.le_trans h.kp.size hk.size, fun k e1 => (hk.block k (Nat.lt_of_lt_of_le e1 h.kp.size) (fun hs => by have := hlow k hs; omega)).trans (h.kp.block k e1)⟩, Nat.le_trans h.sz hk.size⟩
  obtain ⟨hb, cs, hr⟩ := lown_row h.frs hf
  obtain ⟨o, ho, hc⟩ := h3 k hb hs
  rw [row_cells' hr ho] at hc
  cases hc
theorem Opi.later {w0 A B : World} {mp b0 p Lx g leb np : Nat} {fv : Value} {pre : List Fm} (h : Opi w0 mp b0 p Lx g leb np fv pre A) (hb : Below A.heap.size A B) : Opi w0 mp b0 p Lx g leb np fv pre B :=
  h.keep (S := fun _ => False) (.of_below hb) (fun e => e) (fun e => e) (fun _ _ e => e.elim) (fun _ e => e.elim)
/-- One frame more. -/
theorem Opi.step {w0 X V w5 : World} {mp b0 p Lx g leb np : Nat} {fv v' : Value} {pre : List Fm} {x : Fm} {K : Nat → Prop} (h : Opi w0 mp b0 p Lx g leb np fv pre X) (hb : Below X.heap.size X V) (hko : KeepsOthers X V) (hp : p < b0) (hlx : Lx < b0) (hw0 : w0.heap.size ≤ p ∧ w0.heap.size ≤ b0) (hK : ∀ k, K k → k < b0 ∧ k ≠ p)
    (hown : w5.ownsRow b0 173 2 v' (pre.length + 1) (pre.flatMap (fCells g) ++ [.int .i64 (x.1 : Nat), .slice (some ⟨g, x.1 + 6, none⟩) x.2.length x.2.length])) (hg : V.grownBy w5 fv.ownBlock) :
    (w5.cell? ⟨p, 4, none⟩ = some fv ∧ w5.frozen? ⟨p, 4, none⟩ = false ∧ w5.cell? ⟨Lx, 0, none⟩ = some (.pointer (some ⟨p, 0, none⟩))) ∧ KeepsOthers X (w5.setCell ⟨p, 4, none⟩ v') ∧ Holds K X (w5.setCell ⟨p, 4, none⟩ v') ∧ Opi w0 mp b0 p Lx g leb np v' (pre ++ [x]) (w5.setCell ⟨p, 4, none⟩ v') := by
  have hV := h.later hb
  have kg : Kept (fun k => fv.ownBlock = some k) V w5 := ⟨hg.os, hg.tape, hg.output, hg.size, fun k hk hn => hg.block k hk (fun e => hn e.symm)⟩
  have hfb : ∀ k, fv.ownBlock = some k → b0 ≤ k ∧ ∃ cs, Row V k cs 173 := fun k hk => lown_row hV.frs hk
  have r1 : Row w5 p (oCells mp leb np fv) 166 := hV.lb.kept kg (fun e => by have := (hfb p e).1; omega)
  have r2 : Row w5 Lx [.pointer (some ⟨p, 0, none⟩)] 78 := hV.lx.kept kg (fun e => by have := (hfb Lx e).1; omega)
  have ks : Kept (fun k => k = p) w5 (w5.setCell ⟨p, 4, none⟩ v') := (Kept.refl (fun k => k = p) w5).setCell (p := ⟨p, 4, none⟩) rfl _
  have hne : Lx ≠ p := fun e => by
    exact r2.ne r1 (by decide) e
  refine ⟨⟨r1.cell (i := 4) rfl, r1.frozen 4, r2.cell (i := 0) rfl⟩, (hko.trans (KeepsOthers.of_grownBy hg fun j o e ho => ?_)).trans (KeepsOthers.setCell _ _ _), fun k hk => ?_, ⟨r2.kept ks hne, ?_, ?_, ?_, ?_⟩⟩
  · obtain ⟨_, cs, hr⟩ := hfb j e
    exact row_cells' hr ho
  · obtain ⟨e1, e2⟩ := hK k hk
    have hkX : k < X.heap.size := Nat.lt_of_lt_of_le e1 h.sz
    have hkV : k < V.heap.size := Nat.lt_of_lt_of_le hkX hb.size
    rw [ks.block k (Nat.lt_of_lt_of_le hkV hg.size) e2, kg.block k hkV (fun e => by have := (hfb k e).1; omega)]
    exact hb.block k hkX
  · exact r1.set (i := 4) v' (by simp [oCells])
  · have hv5 : ∀ k, v'.ownBlock = some k → b0 ≤ k := fun k e => (lown_row hown e).1
    have := owns_kept hown ks (fun k e e2 => by have := hv5 k e; omega)
    rw [List.length_append, List.flatMap_append]
    simpa [fCells] using this
  · refine ⟨ks.os.trans (kg.os.trans hV.kp.os), ks.tape.trans (kg.tape.trans hV.kp.tape), ks.output.trans (kg.output.trans hV.kp.output), Nat.le_trans hV.kp.size (Nat.le_trans kg.size ks.size), fun k e1 => ?_⟩
    have e3 : k < V.heap.size := Nat.lt_of_lt_of_le e1 hV.kp.size
    rw [ks.block k (Nat.lt_of_lt_of_le e3 kg.size) (by omega), kg.block k e3 (fun e => by have := (hfb k e).1; omega)]
    exact hV.kp.block k e1
  · exact Nat.le_trans hV.sz (Nat.le_trans kg.size ks.size)
end Go.Proofs.YtkfecngkdlajgaaGreatDoor
namespace Go.Proofs.YtkfecngkdlajgaaGreatDoor
open Go.RowKit Go.Shelf
def plainOps (ops : Array Oper) : Bool := ops.toList.all fun o => match o.op with | .defer _ => false | _ => true
theorem plain_op {ops : Array Oper} (h : plainOps ops = true) {i : Nat} {o : Oper} (ho : ops[i]? = some o) : ∀ c, o.op ≠ .defer c := by
  intro c hc
  obtain ⟨hlt, rfl⟩ := Array.getElem?_eq_some_iff.1 ho
  have := (List.all_eq_true.1 h) ops[i] (by rw [← Array.getElem_toList]; exact List.getElem_mem _)
  rw [hc] at this
  cases this
theorem oper_round {F : Fence} {n : Nat} {P : Program} {o : Oper} {a : Act} {w : World} {K K' : Act → World → Prop} {Q : Exit → Act → World → Prop} (l : Nat) (hd : ∀ c, o.op ≠ .defer c) (hK : ∀ a w, K a w → K' a w) (h : o.wpIn F n P a w K Q) : o.wpIn (F.inRound l) n P a w K' Q := by
  have h2 := Oper.wpIn_mono (Q := Q) hK h
  unfold Oper.wpIn at h2 ⊢
  rw [Oper.semAt_plain _ _ _ hd] at h2 ⊢
  refine ⟨h2.1, ?_⟩
  have := h2.2
  revert this
  generalize (execOp a.eval o).run P w = r
  intro h
  exact h
theorem any_inRound {F : Fence} {n : Nat} {P : Program} {md : Region.Mode} {ops : Array Oper} {Q : Exit → Act → World → Prop} (l : Nat) (hp : plainOps ops = true) : ∀ (fuel : Nat) (listed : Array Bool) (a : Act) (w : World), wpAnyIn F n P md ops Q fuel listed a w → wpAnyIn (F.inRound l) n P md ops Q fuel listed a w
  | 0, _, _, _, h => h
  | fuel + 1, listed, a, w, h => by
    refine ⟨h.1, fun i hi => ?_⟩
    have h2 := h.2 i hi
    unfold wpOpIn at h2 ⊢
    cases ho : ops[i]? with
    | none => rw [ho] at h2; exact any_inRound l hp fuel _ a w h2
    | some o =>
      rw [ho] at h2
      simp only at h2 ⊢
      split
      · next hw => rw [if_pos hw] at h2; exact oper_round l (plain_op hp ho) (fun a w h => any_inRound l hp fuel _ a w h) h2
      · next hw => rw [if_neg hw] at h2; exact ⟨h2.1, any_inRound l hp fuel _ _ w h2.2⟩
theorem region_round {n : Nat} {P : Program} {ops : Array Oper} {Q : Exit → Act → World → Prop} {id : Nat} {a : Act} {w : World} (l : Nat) (hm : P.follows .mixedOrders = true) (hp : plainOps ops = true)
    (h : wpAnyIn Fence.wide n P .any ops Q ops.size (Array.replicate ops.size false) a w.drew) : (Code.region id ops true).wpIn (Fence.wide.inRound l) n P Q a w :=
  wpIn_region_any hm (any_inRound l hp _ _ _ _ h)
/-- append, in a region that draws its order. -/
theorem any_append {F : Fence} {n : Nat} {P : Program} (w : World) {o : Oper} {a : Act} {K : Act → World → Prop} {Q : Exit → Act → World → Prop} {ops : Array Oper} {ts : Array Value}
    (hg : o.guard = none) (s x : Operand) (t : TypeId) (hop : o.op = Op.call { callee := Callee.builtin Builtin.append, args := #[s, x], argTypes := #[t, t] })
    (base : Nat) (e : TypeId) (i : TypeInfo) (z : Value) (size bytes : Nat) (h1 : P.underlying t = some (.slice e)) (h2 : P.info? e = some i) (h3 : i.zero = some z) (h4 : i.size = size) (h5 : i.bytes = bytes) (h6 : z.cells.size = size) (h7 : 0 < size)
    (v : Value) (k : Nat) (xs : List Value) (hs : a.eval s = v) (hown : w.ownsRow base e size v k xs) (ad : Addr) (m c : Nat) (news : List Value) (hx : a.eval x = .slice (some ad) m c) (hn : news.length = m * size)
    (hc : ∀ j u, news[j]? = some u → w.cell? (ad.add j) = some u) (h1c : ∀ u ∈ news, u.oneCell' = true) (b1 : k + m ≤ maxLen) (b2 : (k + m) * bytes ≤ 140737488355328) (b3 : base ≤ w.heap.size)
    (hK : ∀ v' w', w'.ownsRow base e size v' (k + m) (xs ++ news) → w.grownBy w' v.ownBlock → K (a.put o.dst v') w') :
    if Region.wanted o (yielded ops ts) = true then o.wpIn F n P a w K Q else (∀ f, o.about P w a.eval = some f → F.fn f) ∧ K (a.put o.dst undef) w := by
  rw [if_pos (by simp [Region.wanted, hg])]
  obtain ⟨v', w', hrun, r1, r2, r3⟩ := run_append_own (P := P) w base t o.type e i z size bytes h1 h2 h3 h4 h5 h6 h7 v k xs hown ad m c news hn hc h1c b1 b2 b3
  unfold Oper.wpIn
  refine ⟨?_, ?_⟩
  · simp [Oper.about, hop, resolve, Target.leads, Sem.run_pure]
  · rw [Oper.semAt_plain F _ _ (by rw [hop]; intro c hc'; cases hc')]
    simp [execOp, hop, resolve, invoke, builtin, hs, hx, hrun, Result.andThen]
    exact hK v' w' r1 r2
end Go.Proofs.YtkfecngkdlajgaaGreatDoor
