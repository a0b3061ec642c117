/-
  The document's Parse, as it runs.
  The document's Parse, as it runs: a book.
  The document's Parse of any text.
-/
import Derived.Test.YtmaekpfkkpkgpaaGreatDoorYB
import Derived.Test.YtmaekpfkkpkgpaaGreatDoorYA
import Derived.Test.YtmaekpfkkpkgpaaGreatDoorYC
import Derived.Deep.LoopGhost
import Derived.Deep.RegionWith
import Derived.BigQuiet
namespace Go.Proofs.YtmaekpfkkpkgpaaGreatDoor
open Go.RowKit Go.Shelf
set_option maxRecDepth 10000

theorem nums_bnd : ∀ (k : Nat) (s : List UInt8), s.length ≤ k → ∀ x ∈ nums s, 0 ≤ x ∧ x < 1000000000
  | 0, s, hk, x, hx => by
    have h0 : s = [] := List.eq_nil_of_length_eq_zero (by omega)
    rw [h0, nums_nil] at hx
    cases hx
  | k + 1, s, hk, x, hx => by
    by_cases h : s = []
    · rw [h, nums_nil] at hx; cases hx
    · rw [nums_step h] at hx
      have hlt := bhd_lt 32 h
      split at hx
      · cases hx
      · rename_i n hn
        rcases List.mem_cons.1 hx with rfl | hx
        · unfold wordF at hn
          split at hn
          · rename_i hc
            cases hn
            have hb := val_bnd (ahd 32 s).length (ahd 32 s) rfl hc.1
            refine ⟨hb.1, Int.lt_of_lt_of_le hb.2 ?_⟩
            have hl := hc.2
            have : (ahd 32 s).length = 0 ∨ (ahd 32 s).length = 1 ∨ (ahd 32 s).length = 2 ∨ (ahd 32 s).length = 3 ∨ (ahd 32 s).length = 4 ∨ (ahd 32 s).length = 5 ∨ (ahd 32 s).length = 6 ∨ (ahd 32 s).length = 7 ∨ (ahd 32 s).length = 8 ∨ (ahd 32 s).length = 9 := by omega
            rcases this with e | e | e | e | e | e | e | e | e | e <;> rw [e] <;> decide
          · cases hn
        · exact nums_bnd k (bhd 32 s) (by omega) x hx
/-- What the document's Parse leaves. -/
def DPar (w : World) (o : Option (Int × List PB)) (e : Ending) (w' : World) : Prop :=
  Below w.heap.size w w' ∧ match o with
    | none => e = .returned (.tuple #[.pointer none, .int .i64 22])
    | some (size, l) => ∃ p q cap, e = .returned (.tuple #[.pointer (some ⟨p, 0, none⟩), .int .i64 0]) ∧ DLies w' p q cap size l ∧ w.heap.size ≤ p ∧ w.heap.size ≤ q ∧ BkOk size l
theorem dpar_none {w w' : World} {o : Option (Int × List PB)} (h : o = none) (hb : Below w.heap.size w w') : DPar w o (.returned (.tuple #[.pointer none, .int .i64 22])) w' := by
  subst h; exact ⟨hb, rfl⟩
theorem dpar_some {w w' : World} {o : Option (Int × List PB)} {p q cap : Nat} {size : Int} {l : List PB} (h : o = some (size, l)) (hb : Below w.heap.size w w') (hd : DLies w' p q cap size l ∧ w.heap.size ≤ p ∧ w.heap.size ≤ q ∧ BkOk size l) : DPar w o (.returned (.tuple #[.pointer (some ⟨p, 0, none⟩), .int .i64 0])) w' := by
  subst h; exact ⟨hb, p, q, cap, rfl, hd⟩
/-- The document's book, as it is being read. -/
structure Rd (w : World) (p q cap : Nat) (size : Int) (l : List PB) (W : World) : Prop where
  lies : DLies W p q cap size l
  ok : BkOk size l
  bel : Below w.heap.size w W
  hp : w.heap.size ≤ p
  hq : w.heap.size ≤ q
theorem Rd.later {w : World} {p q cap : Nat} {size : Int} {l : List PB} {W W' : World} (h : Rd w p q cap size l W) (hb : Below W.heap.size W W') : Rd w p q cap size l W' := ⟨h.lies.later hb, h.ok, Below.after h.bel hb, h.hp, h.hq⟩
theorem Rd.left {w : World} {p q cap : Nat} {size : Int} {l l' : List PB} {W W' : World} (h : Rd w p q cap size l W) (hl : DLeft W W' p q cap size l') (ho : BkOk size l') : Rd w p q cap size l' W' := ⟨hl.1, ho, h.bel.trans (hl.2.below h.bel.size (fun k e => by subst e; exact h.hq)), h.hp, h.hq⟩
theorem bk_same {size : Int} {l l' : List PB} (h : BkOk size l) (ho : AllOk size l') (hl : l'.length = l.length) : BkOk size l' := ⟨h.s1, h.s2, by have := h.n1; omega, by have := h.n2; omega, ho⟩
/-- A row of ints stays while the book's row is written. -/
theorem DLeft.ints {W W' : World} {p q cap : Nat} {size : Int} {l l' : List PB} {g : Nat} {cs : List Value} (h : DLies W p q cap size l) (hl : DLeft W W' p q cap size l') (hr : Row W g cs 3) : Row W' g cs 3 := hr.kept hl.2 (fun e => absurd e (hr.ne h.row (by decide)))
theorem row4 {W : World} {g : Nat} {a b c d : Int} (h : Row W g ([a, b, c, d].map intV) 3) : W.cell? ⟨g, 0, none⟩ = some (.int .i64 a) ∧ W.cell? ⟨g, 1, none⟩ = some (.int .i64 b) ∧ W.cell? ⟨g, 2, none⟩ = some (.int .i64 c) ∧ W.cell? ⟨g, 3, none⟩ = some (.int .i64 d) :=
  ⟨h.cell (i := 0) rfl, h.cell (i := 1) rfl, h.cell (i := 2) rfl, h.cell (i := 3) rfl⟩
set_option maxHeartbeats 2000000 in
/-- The first line is no book's. -/
theorem dparse_len (s : List UInt8) (hs : s.length ≤ 1048576) (w : World) (h : (10 : UInt8) ∉ s ∨ ¬ (nums (ahd 10 s)).length = 2) :
    Calls Tryz.prog 11 #[.string (bs s)] w (DPar w (dparse s)) := by
  have HNo := hidW (show dparse s = none by
    unfold dparse dread
    by_cases h1 : (10 : UInt8) ∈ s
    · rw [if_pos h1]
      have h2 : ¬ (nums (ahd 10 s)).length = 2 := by rcases h with h | h; exact absurd h1 h; exact h
      split
      · rename_i sz l e
        split at e
        · rename_i n sz' e2; rw [e2] at h2; exact absurd rfl h2
        · cases e
      · rfl
    · rw [if_neg h1])
  have hle := ahd_le 10 s
  have kC := hidW (fun W => dcut_any 10 s (by omega) W)
  have kN := hidW (fun W => dnums_any (ahd 10 s) (by omega) W)
  by_cases h1 : (10 : UInt8) ∈ s
  · have h2 : ¬ (nums (ahd 10 s)).length = 2 := by rcases h with h | h; exact absurd h1 h; exact h
    rw [decide_eq_true h1] at kC
    obtain ⟨m, hm⟩ : ∃ m, m = (nums (ahd 10 s)).length := ⟨_, rfl⟩
    rw [← hm] at h2
    have e2 : ((m : Int) != 2) = true := by simp; omega
    have HMm := hidW hm
    clear h h1 hm h2
    go_enter Tryz.func11, Tryz.ntmps11
    go_wp2_with (first
      | (go_at_call 38; refine (kC.out _).mono ?_; rintro e w1 ⟨rfl, hb1⟩; have HB1 := hidW hb1; clear hb1)
      | (go_at_call 39; refine (kN.out _).mono ?_; rintro e w2 ⟨v2, rfl, ho2, hb2⟩; obtain ⟨a2, cc2, rfl⟩ := owns_form ho2; have HB2 := hidW (Below.after HB1.out hb2); clear hb2 ho2; rw [← HMm.out]))
    go_ret2
    exact dpar_none HNo.out HB2.out
  · rw [decide_eq_false h1] at kC
    clear h h1
    go_enter Tryz.func11, Tryz.ntmps11
    go_wp2_with (first
      | (go_at_call 38; refine (kC.out _).mono ?_; rintro e w1 ⟨rfl, hb1⟩; have HB1 := hidW hb1; clear hb1)
      | (go_at_call 39; refine (kN.out _).mono ?_; rintro e w2 ⟨v2, rfl, ho2, hb2⟩; obtain ⟨a2, cc2, rfl⟩ := owns_form ho2; have HB2 := hidW (Below.after HB1.out hb2); clear hb2 ho2))
    go_ret2
    exact dpar_none HNo.out HB2.out
set_option maxHeartbeats 2000000 in
/-- The first line's numbers make no book. -/
theorem dparse_new (s : List UInt8) (hs : s.length ≤ 1048576) (w : World) (h1 : (10 : UInt8) ∈ s) (n size : Int) (hn : nums (ahd 10 s) = [n, size]) (hok : ¬ newOk n size) :
    Calls Tryz.prog 11 #[.string (bs s)] w (DPar w (dparse s)) := by
  have HNo := hidW (show dparse s = none by
    unfold dparse dread
    rw [if_pos h1, hn]
    dsimp only
    rw [if_neg hok])
  have hle := ahd_le 10 s
  have kC := hidW (fun W => dcut_any 10 s (by omega) W)
  have kN := hidW (fun W => dnums_any (ahd 10 s) (by omega) W)
  have kW := hidW (fun W => dnew_no n size hok W)
  rw [decide_eq_true h1] at kC
  rw [hn] at kN
  clear h1 hn hok
  go_enter Tryz.func11, Tryz.ntmps11
  go_wp2_with (first
    | (go_at_call 38; refine (kC.out _).mono ?_; rintro e w1 ⟨rfl, hb1⟩; have HB1 := hidW hb1; clear hb1)
    | (go_at_call 39; refine (kN.out _).mono ?_; rintro e w2 ⟨v2, rfl, ho2, hb2⟩; obtain ⟨g2, cc2, rfl, _, _, _, hr2⟩ := Row.of_owns ho2 (by simp); have HB2 := hidW (Below.after HB1.out hb2); have r0 : w2.cell? ⟨g2, 0, none⟩ = some (.int .i64 n) := hr2.cell (i := 0) rfl; have r1 : w2.cell? ⟨g2, 1, none⟩ = some (.int .i64 size) := hr2.cell (i := 1) rfl; clear hb2 ho2 hr2; simp only [List.length_cons, List.length_nil])
    | (go_at_call 6; refine (kW.out _).mono ?_; rintro e w3 ⟨rfl, rfl⟩))
  try (go_region_held3 (fun w' => w'.cell? ⟨g2, 0, none⟩ = some (.int .i64 n) ∧ w'.cell? ⟨g2, 1, none⟩ = some (.int .i64 size)) (first | assumption | go_keep) (first
    | (go_at_call 6; refine (kW.out _).mono ?_; rintro e w3 ⟨rfl, rfl⟩)))
  try go_wp2
  go_ret2
  exact dpar_none HNo.out (by first | exact HB2.out | exact HB2.out.drew)
end Go.Proofs.YtmaekpfkkpkgpaaGreatDoor
namespace Go.Proofs.YtmaekpfkkpkgpaaGreatDoor
open Go.RowKit Go.Shelf
set_option maxRecDepth 10000

set_option maxHeartbeats 16000000 in
theorem dparse_go (s : List UInt8) (hs : s.length ≤ 1048576) (w : World) (h1 : (10 : UInt8) ∈ s) (n : Nat) (size : Int) (hn : nums (ahd 10 s) = [(n : Int), size]) (hok : newOk n size) :
    Calls Tryz.prog 11 #[.string (bs s)] w (DPar w (dparse s)) := by
  have HRead := hidW (show dread s = (drowsA size (List.replicate n PB.none) (bhd 10 s)).map (fun l => (size, l)) by
    unfold dread
    rw [if_pos h1, hn]
    dsimp only
    rw [if_pos hok, Int.toNat_natCast])
  have hle := ahd_le 10 s
  have hle2 := bhd_le 10 s
  have kC := hidW (fun W => dcut_any 10 s (by omega) W)
  have kN := hidW (fun W => dnums_any (ahd 10 s) (by omega) W)
  have kW := hidW (fun W => dnew_go n size hok W)
  have HOk0 := hidW (bkOk_new hok)
  rw [decide_eq_true h1] at kC
  rw [hn] at kN
  obtain ⟨R0, hR0⟩ : ∃ R0, R0 = bhd 10 s := ⟨_, rfl⟩
  rw [← hR0] at HRead hle2 kC
  clear h1 hn hok hR0
  go_enter Tryz.func11, Tryz.ntmps11
  go_wp2_with (first
    | (go_at_call 38; refine (kC.out _).mono ?_; rintro e w1 ⟨rfl, hb1⟩; have HB1 := hidW hb1; clear hb1)
    | (go_at_call 39; refine (kN.out _).mono ?_; rintro e w2 ⟨v2, rfl, ho2, hb2⟩; obtain ⟨g2, cc2, rfl, _, _, _, hr2⟩ := Row.of_owns ho2 (by simp); have HB2 := hidW (Below.after HB1.out hb2); have r0 : w2.cell? ⟨g2, 0, none⟩ = some (.int .i64 (n : Int)) := hr2.cell (i := 0) rfl; have r1 : w2.cell? ⟨g2, 1, none⟩ = some (.int .i64 size) := hr2.cell (i := 1) rfl; clear hb2 ho2 hr2; simp only [List.length_cons, List.length_nil]))
  have HG2 := hidW (And.intro r0 r1)
  go_region_held3 (fun w' => w'.cell? ⟨g2, 0, none⟩ = some (.int .i64 (n : Int)) ∧ w'.cell? ⟨g2, 1, none⟩ = some (.int .i64 size)) (first | assumption | go_keep) (first
    | (go_at_call 6; refine (kW.out _).mono ?_; rintro e w3 ⟨rfl, hl3, hb3⟩; have q0 := (hb3.cell (p := ⟨g2, 0, none⟩) (World.block_lt_of_cell? w2.drew _ HG2.out.1)).trans HG2.out.1; have q1 := (hb3.cell (p := ⟨g2, 1, none⟩) (World.block_lt_of_cell? w2.drew _ HG2.out.2)).trans HG2.out.2; have HR0 := hidW (show Rd w (w2.heap.size + 1) w2.heap.size n size (List.replicate n PB.none) w3 from ⟨hl3, HOk0.out, Below.after HB2.out.drew hb3, by have := HB2.out.size; omega, HB2.out.size⟩); clear hl3 hb3))
  clear r0 r1 HG2
  go_wp2_with fail
  go_loopg [4, 5, 7] (R0.length + 1) (fun kx s4 s5 s7 wr => ∃ (rest : List UInt8) (l : List PB), rest.length < kx ∧ s5 = .string (bs rest) ∧ Hid (Rd w (w2.heap.size + 1) w2.heap.size n size l wr ∧ dread s = (drowsA size l rest).map (fun l => (size, l))) ∧ rest.length ≤ 1048576)
  case atStart => exact ⟨R0, _, by omega, rfl, ⟨HR0.out, HRead.out⟩, by omega⟩
  case round =>
    obtain ⟨rest, l, hk, rfl, HI, hrl⟩ := hrel
    have HR := hidW HI.out.1
    by_cases hr : rest = []
    · subst hr
      have hnil := bs_nil
      have kX := hidW (dtext_any HR.out.lies HR.out.ok)
      have hq := bs_eq (textF size l) s
      have HD := hidW (show dread s = some (size, l) by rw [HI.out.2, drowsA_nil]; rfl)
      by_cases ht : textF size l = s
      · rw [decide_eq_true ht] at hq
        have HP := hidW (show dparse s = some (size, l) by unfold dparse; rw [HD.out]; dsimp only; rw [if_pos ht])
        obtain ⟨TX, hTX⟩ : ∃ TX, TX = bs (textF size l) := ⟨_, rfl⟩
        rw [← hTX] at hq kX
        clear ht hTX
        go_wp2_with (go_at_call 36; refine kX.out.mono ?_; rintro e u2 ⟨rfl, hb2⟩; have HR2 := hidW (HR.out.later hb2); clear hb2)
        go_ret2
        exact dpar_some HP.out HR2.out.bel ⟨HR2.out.lies, HR2.out.hp, HR2.out.hq, HR2.out.ok⟩
      · rw [decide_eq_false ht] at hq
        have HP := hidW (show dparse s = none by unfold dparse; rw [HD.out]; dsimp only; rw [if_neg ht])
        obtain ⟨TX, hTX⟩ : ∃ TX, TX = bs (textF size l) := ⟨_, rfl⟩
        rw [← hTX] at hq kX
        clear ht hTX
        go_wp2_with (go_at_call 36; refine kX.out.mono ?_; rintro e u2 ⟨rfl, hb2⟩; have HR2 := hidW (HR.out.later hb2); clear hb2)
        go_ret2
        exact dpar_none HP.out HR2.out.bel
    · have hne1 := bs_ne hr
      have hne2 := bs_ne2 hr
      have hlt := bhd_lt 10 hr
      have hle3 := ahd_le 10 rest
      have kC2 := hidW (fun W => dcut_any 10 rest (by omega) W)
      have kN2 := hidW (fun W => dnums_any (ahd 10 rest) (by omega) W)
      have HSt := hidW (drowsA_step size l hr)
      have hbn := nums_bnd _ (ahd 10 rest) (Nat.le_refl _)
      obtain ⟨L, hL⟩ : ∃ L, L = ahd 10 rest := ⟨_, rfl⟩
      obtain ⟨R, hR⟩ : ∃ R, R = bhd 10 rest := ⟨_, rfl⟩
      rw [← hL] at hle3 kC2 kN2 HSt hbn
      rw [← hR] at hlt kC2 HSt
      clear hr hL hR
      have HNone := hidW (show drow size l L = none → dparse s = none from fun e => by unfold dparse; rw [HI.out.2, HSt.out, e]; rfl)
      by_cases hns : (nums L).length = 4
      · obtain ⟨a, b, c, d, hns⟩ : ∃ a b c d, nums L = [a, b, c, d] := by
          match hM : nums L with
          | [a, b, c, d] => exact ⟨a, b, c, d, rfl⟩
          | [] => rw [hM] at hns; simp at hns
          | [_] => rw [hM] at hns; simp at hns
          | [_, _] => rw [hM] at hns; simp at hns
          | [_, _, _] => rw [hM] at hns; simp at hns
          | _ :: _ :: _ :: _ :: _ :: _ => rw [hM] at hns; simp at hns
        rw [hns] at kN2 hbn
        have ba := hbn a (by simp)
        have bb := hbn b (by simp)
        have bc := hbn c (by simp)
        have bd := hbn d (by simp)
        obtain ⟨ba0, ba1⟩ := ba
        obtain ⟨bb0, bb1⟩ := bb
        obtain ⟨bc0, bc1⟩ := bc
        obtain ⟨bd0, bd1⟩ := bd
        obtain ⟨T, hT⟩ : ∃ T, T = takeF l a b := ⟨_, rfl⟩
        obtain ⟨U, hU⟩ : ∃ U, U = useF size T.2 a c := ⟨_, rfl⟩
        obtain ⟨K, hK⟩ : ∃ K, K = killF U.2 a (c - d) := ⟨_, rfl⟩
        obtain ⟨Z, hZ⟩ : ∃ Z, Z = closeF K.2 a := ⟨_, rfl⟩
        have HDr := hidW (show drow size l L = if T.1 ≠ 0 then none else if U.1 ≠ 0 then none else if c < d then none else if K.1 ≠ 0 then none else if shut L = true then some Z.2 else some K.2 by
          unfold drow; rw [hns, hZ, hK, hU, hT])
        have HT := hidW (bk_same HR.out.ok (l' := T.2) (by rw [hT]; exact take_ok HR.out.ok.ok a b) (by rw [hT]; exact take_len l a b))
        have HU := hidW (bk_same HT.out (l' := U.2) (by rw [hU]; exact use_ok HT.out.ok a c) (by rw [hU]; exact use_len size _ a c))
        have HK := hidW (bk_same HU.out (l' := K.2) (by rw [hK]; exact kill_ok HU.out.ok a (c - d)) (by rw [hK]; exact kill_len _ a (c - d)))
        have HL := hidW (bk_same HK.out (l' := Z.2) (by rw [hZ]; exact close_ok HK.out.ok a) (by rw [hZ]; exact close_len _ a))
        have kT := hidW (fun W (h : Rd w (w2.heap.size + 1) w2.heap.size n size l W) => dtake_go h.lies h.ok.ok a b)
        have kU := hidW (fun W (h : Rd w (w2.heap.size + 1) w2.heap.size n size T.2 W) => duse_go h.lies h.ok.ok h.ok.s2 a c)
        have kK := hidW (fun W (h : Rd w (w2.heap.size + 1) w2.heap.size n size U.2 W) => dkill_go h.lies h.ok.ok h.ok.s2 a (c - d))
        have kL := hidW (fun W (h : Rd w (w2.heap.size + 1) w2.heap.size n size K.2 W) => dclose_go h.lies a)
        rw [← hT] at kT
        rw [← hU] at kU
        rw [← hK] at kK
        rw [← hZ] at kL
        clear hT hU hK hZ hns hbn
        obtain ⟨T1, T2⟩ := T
        obtain ⟨U1, U2⟩ := U
        obtain ⟨K1, K2⟩ := K
        obtain ⟨Z1, Z2⟩ := Z
        dsimp only at HDr HT HU HK HL kT kU kK kL
        by_cases eT : T1 = 0
        · have fT : (T1 != 0) = false := by simpa using eT
          by_cases eU : U1 = 0
          · have fU : (U1 != 0) = false := by simpa using eU
            by_cases hcd : c < d
            · have HP := hidW (HNone.out (by rw [HDr.out, if_neg (by simp [eT]), if_neg (by simp [eU]), if_pos hcd]))
              clear eT eU
              go_wp2_with (first
          | (go_at_call 38; refine (kC2.out _).mono ?_; rintro e u1 ⟨rfl, hb1⟩; have HR1 := hidW (HR.out.later hb1); clear hb1)
          | (go_at_call 39; refine (kN2.out _).mono ?_; rintro e u2 ⟨v2, rfl, ho2, hb2⟩; obtain ⟨g2, cc2, rfl, _, _, _, hr2⟩ := Row.of_owns ho2 (by simp); have HR2 := hidW ((HR1.out.later hb2).later (Below.refl _ _).drew); have HG2 := hidW hr2.drew; obtain ⟨r0, r1, r2, r3⟩ := row4 hr2.drew; clear hb2 ho2 hr2; simp only [List.length_cons, List.length_nil, Nat.reduceAdd]))
              refine wp_region_held_drew (S := (fun w' => w'.cell? ⟨g2, 0, none⟩ = some (.int .i64 a) ∧ w'.cell? ⟨g2, 1, none⟩ = some (.int .i64 b) ∧ w'.cell? ⟨g2, 2, none⟩ = some (.int .i64 c) ∧ w'.cell? ⟨g2, 3, none⟩ = some (.int .i64 d))) (by kernel_rfl) ⟨r0, r1, r2, r3⟩ (fun hHeld => ?_)
              refine wpAnyH_take (i := 0) (oi := ({ dst := some 48, op := Op.move (Operand.tmp 7), type := 51, pos := "ref.go:261", after := #[], guard := none })) (v := ?_) rfl (by kernel_rfl) (by kernel_rfl) (by kernel_rfl) (fun _ _ _ h => h) (Or.inl ⟨by rfl, ?_⟩) (by assumption) ?_
              rotate_left
              · (intro w hSw; (try dsimp only at hSw); go_simp; (try with_reducible rfl))
              (try simp only [Act.put, List.setIfInBounds_toArray, List.set_cons_zero, List.set_cons_succ])
              refine wpAnyH_take (i := 1) (oi := ({ dst := some 49, op := Op.call { callee := Callee.builtin Builtin.len, args := #[Operand.tmp 48], argTypes := #[51] }, type := 3, pos := "ref.go:261", after := #[{ on := 0, ground := Ground.data }], guard := none })) (v := ?_) rfl (by kernel_rfl) (by kernel_rfl) (by kernel_rfl) (fun _ _ _ h => h) (Or.inl ⟨by rfl, ?_⟩) (by assumption) ?_
              rotate_left
              · (intro w hSw; (try dsimp only at hSw); go_simp; (try with_reducible rfl))
              (try simp only [Act.put, List.setIfInBounds_toArray, List.set_cons_zero, List.set_cons_succ])
              refine wpAnyH_take (i := 2) (oi := ({ dst := some 50, op := Op.binOp BinOp.neq 3 (Operand.tmp 49) (Operand.const (Value.int IntKind.i64 4)) 3, type := 4, pos := "ref.go:261", after := #[{ on := 1, ground := Ground.data }], guard := none })) (v := ?_) rfl (by kernel_rfl) (by kernel_rfl) (by kernel_rfl) (fun _ _ _ h => h) (Or.inl ⟨by rfl, ?_⟩) (by assumption) ?_
              rotate_left
              · (intro w hSw; (try dsimp only at hSw); go_simp; (try with_reducible rfl))
              (try simp only [Act.put, List.setIfInBounds_toArray, List.set_cons_zero, List.set_cons_succ])
              refine wpAnyH_take (i := 3) (oi := ({ dst := some 51, op := Op.move (Operand.tmp 50), type := 4, pos := "ref.go:261", after := #[{ on := 2, ground := Ground.data }], guard := none })) (v := ?_) rfl (by kernel_rfl) (by kernel_rfl) (by kernel_rfl) (fun _ _ _ h => h) (Or.inl ⟨by rfl, ?_⟩) (by assumption) ?_
              rotate_left
              · (intro w hSw; (try dsimp only at hSw); go_simp; (try with_reducible rfl))
              (try simp only [Act.put, List.setIfInBounds_toArray, List.set_cons_zero, List.set_cons_succ])
              refine wpAnyH_take (i := 4) (oi := ({ dst := some 52, op := Op.move (Operand.tmp 8), type := 27, pos := "ref.go:261", after := #[{ on := 3, ground := Ground.guard }], guard := some (3, false) })) (v := ?_) rfl (by kernel_rfl) (by kernel_rfl) (by kernel_rfl) (fun _ _ _ h => h) (Or.inl ⟨by rfl, ?_⟩) (by assumption) ?_
              rotate_left
              · (intro w hSw; (try dsimp only at hSw); go_simp; (try with_reducible rfl))
              (try simp only [Act.put, List.setIfInBounds_toArray, List.set_cons_zero, List.set_cons_succ])
              refine wpAnyH_take (i := 5) (oi := ({ dst := some 53, op := Op.move (Operand.tmp 7), type := 51, pos := "ref.go:261", after := #[{ on := 3, ground := Ground.guard }], guard := some (3, false) })) (v := ?_) rfl (by kernel_rfl) (by kernel_rfl) (by kernel_rfl) (fun _ _ _ h => h) (Or.inl ⟨by rfl, ?_⟩) (by assumption) ?_
              rotate_left
              · (intro w hSw; (try dsimp only at hSw); go_simp; (try with_reducible rfl))
              (try simp only [Act.put, List.setIfInBounds_toArray, List.set_cons_zero, List.set_cons_succ])
              refine wpAnyH_take (i := 6) (oi := ({ dst := some 54, op := Op.indexAddr 51 (Operand.tmp 53) (Operand.const (Value.int IntKind.i64 0)), type := 0, pos := "ref.go:261", after := #[{ on := 5, ground := Ground.data }, { on := 3, ground := Ground.guard }], guard := some (3, false) })) (v := ?_) rfl (by kernel_rfl) (by kernel_rfl) (by kernel_rfl) (fun _ _ _ h => h) (Or.inl ⟨by rfl, ?_⟩) (by assumption) ?_
              rotate_left
              · (intro w hSw; (try dsimp only at hSw); go_simp; (try with_reducible rfl))
              (try simp only [Act.put, List.setIfInBounds_toArray, List.set_cons_zero, List.set_cons_succ])
              refine wpAnyH_take (i := 7) (oi := ({ dst := some 55, op := Op.load 3 (Operand.tmp 54), type := 3, pos := "ref.go:261", after := #[{ on := 6, ground := Ground.data }, { on := 3, ground := Ground.guard }], guard := some (3, false) })) (v := ?_) rfl (by kernel_rfl) (by kernel_rfl) (by kernel_rfl) (fun _ _ _ h => h) (Or.inl ⟨by rfl, ?_⟩) (by assumption) ?_
              rotate_left
              · (intro w hSw; (try dsimp only at hSw); go_simp; (try with_reducible rfl))
              (try simp only [Act.put, List.setIfInBounds_toArray, List.set_cons_zero, List.set_cons_succ])
              refine wpAnyH_take (i := 8) (oi := ({ dst := some 56, op := Op.move (Operand.tmp 7), type := 51, pos := "ref.go:261", after := #[{ on := 3, ground := Ground.guard }], guard := some (3, false) })) (v := ?_) rfl (by kernel_rfl) (by kernel_rfl) (by kernel_rfl) (fun _ _ _ h => h) (Or.inl ⟨by rfl, ?_⟩) (by assumption) ?_
              rotate_left
              · (intro w hSw; (try dsimp only at hSw); go_simp; (try with_reducible rfl))
              (try simp only [Act.put, List.setIfInBounds_toArray, List.set_cons_zero, List.set_cons_succ])
              refine wpAnyH_take (i := 9) (oi := ({ dst := some 57, op := Op.indexAddr 51 (Operand.tmp 56) (Operand.const (Value.int IntKind.i64 1)), type := 0, pos := "ref.go:261", after := #[{ on := 8, ground := Ground.data }, { on := 3, ground := Ground.guard }], guard := some (3, false) })) (v := ?_) rfl (by kernel_rfl) (by kernel_rfl) (by kernel_rfl) (fun _ _ _ h => h) (Or.inl ⟨by rfl, ?_⟩) (by assumption) ?_
              rotate_left
              · (intro w hSw; (try dsimp only at hSw); go_simp; (try with_reducible rfl))
              (try simp only [Act.put, List.setIfInBounds_toArray, List.set_cons_zero, List.set_cons_succ])
              refine wpAnyH_take (i := 10) (oi := ({ dst := some 58, op := Op.load 3 (Operand.tmp 57), type := 3, pos := "ref.go:261", after := #[{ on := 9, ground := Ground.data }, { on := 3, ground := Ground.guard }], guard := some (3, false) })) (v := ?_) rfl (by kernel_rfl) (by kernel_rfl) (by kernel_rfl) (fun _ _ _ h => h) (Or.inl ⟨by rfl, ?_⟩) (by assumption) ?_
              rotate_left
              · (intro w hSw; (try dsimp only at hSw); go_simp; (try with_reducible rfl))
              (try simp only [Act.put, List.setIfInBounds_toArray, List.set_cons_zero, List.set_cons_succ])
              refine wpAnyH_ready (rs := [11]) (by kernel_rfl) (by simp) ?_
              refine AllReadyH.cons (o := ({ dst := some 59, op := Op.call { callee := Callee.value (Operand.func 21), args := #[Operand.tmp 52, Operand.tmp 55, Operand.tmp 58], argTypes := #[27, 3, 3] }, type := 24, pos := "ref.go:261", after := #[{ on := 4, ground := Ground.data }, { on := 7, ground := Ground.data }, { on := 10, ground := Ground.data }, { on := 3, ground := Ground.chain }, { on := 3, ground := Ground.guard }], guard := some (3, false) })) rfl (fun K hK => ?_) AllReadyH.nil
              go_simp
              go_at_call 21; refine (kT.out _ HR2.out).mono ?_; rintro e u3 ⟨rfl, hl3⟩; have HR3 := hidW (HR2.out.left hl3 HT.out); have HG3 := hidW (DLeft.ints HR2.out.lies hl3 HG2.out); obtain ⟨s0, s1, s2, s3⟩ := row4 HG3.out; clear hl3
              (try go_wp2_with fail)
              refine hK.out _ _ ⟨s0, s1, s2, s3⟩ (fun hHeld => ?_)
              clear hK K
              (try simp only [Act.put, List.setIfInBounds_toArray, List.set_cons_zero, List.set_cons_succ])
              refine wpAnyH_take (i := 12) (oi := ({ dst := some 60, op := Op.binOp BinOp.neq 24 (Operand.tmp 59) (Operand.const (Value.int IntKind.i64 0)) 24, type := 4, pos := "ref.go:261", after := #[{ on := 11, ground := Ground.data }, { on := 3, ground := Ground.guard }], guard := some (3, false) })) (v := ?_) rfl (by kernel_rfl) (by kernel_rfl) (by kernel_rfl) (fun _ _ _ h => h) (Or.inl ⟨by rfl, ?_⟩) (by assumption) ?_
              rotate_left
              · (intro w hSw; (try dsimp only at hSw); go_simp; (try with_reducible rfl))
              (try simp only [Act.put, List.setIfInBounds_toArray, List.set_cons_zero, List.set_cons_succ])
              refine wpAnyH_take (i := 13) (oi := ({ dst := some 61, op := Op.pick (Operand.tmp 51) (Operand.const (Value.bool true)) (Operand.tmp 60), type := 4, pos := "ref.go:261", after := #[{ on := 3, ground := Ground.data }, { on := 12, ground := Ground.data }], guard := none })) (v := ?_) rfl (by kernel_rfl) (by kernel_rfl) (by kernel_rfl) (fun _ _ _ h => h) (Or.inl ⟨by rfl, ?_⟩) (by assumption) ?_
              rotate_left
              · (intro w hSw; (try dsimp only at hSw); go_simp; (try with_reducible rfl))
              (try simp only [Act.put, List.setIfInBounds_toArray, List.set_cons_zero, List.set_cons_succ])
              refine wpAnyH_take (i := 14) (oi := ({ dst := some 62, op := Op.move (Operand.tmp 61), type := 4, pos := "ref.go:261", after := #[{ on := 13, ground := Ground.data }, { on := 11, ground := Ground.chain }], guard := none })) (v := ?_) rfl (by kernel_rfl) (by kernel_rfl) (by kernel_rfl) (fun _ _ _ h => h) (Or.inl ⟨by rfl, ?_⟩) (by assumption) ?_
              rotate_left
              · (intro w hSw; (try dsimp only at hSw); go_simp; (try with_reducible rfl))
              (try simp only [Act.put, List.setIfInBounds_toArray, List.set_cons_zero, List.set_cons_succ])
              refine wpAnyH_take (i := 15) (oi := ({ dst := some 63, op := Op.move (Operand.tmp 8), type := 27, pos := "ref.go:261", after := #[{ on := 14, ground := Ground.guard }], guard := some (14, false) })) (v := ?_) rfl (by kernel_rfl) (by kernel_rfl) (by kernel_rfl) (fun _ _ _ h => h) (Or.inl ⟨by rfl, ?_⟩) (by assumption) ?_
              rotate_left
              · (intro w hSw; (try dsimp only at hSw); go_simp; (try with_reducible rfl))
              (try simp only [Act.put, List.setIfInBounds_toArray, List.set_cons_zero, List.set_cons_succ])
              refine wpAnyH_take (i := 16) (oi := ({ dst := some 64, op := Op.move (Operand.tmp 7), type := 51, pos := "ref.go:261", after := #[{ on := 14, ground := Ground.guard }], guard := some (14, false) })) (v := ?_) rfl (by kernel_rfl) (by kernel_rfl) (by kernel_rfl) (fun _ _ _ h => h) (Or.inl ⟨by rfl, ?_⟩) (by assumption) ?_
              rotate_left
              · (intro w hSw; (try dsimp only at hSw); go_simp; (try with_reducible rfl))
              (try simp only [Act.put, List.setIfInBounds_toArray, List.set_cons_zero, List.set_cons_succ])
              refine wpAnyH_take (i := 17) (oi := ({ dst := some 65, op := Op.indexAddr 51 (Operand.tmp 64) (Operand.const (Value.int IntKind.i64 0)), type := 0, pos := "ref.go:261", after := #[{ on := 16, ground := Ground.data }, { on := 14, ground := Ground.guard }], guard := some (14, false) })) (v := ?_) rfl (by kernel_rfl) (by kernel_rfl) (by kernel_rfl) (fun _ _ _ h => h) (Or.inl ⟨by rfl, ?_⟩) (by assumption) ?_
              rotate_left
              · (intro w hSw; (try dsimp only at hSw); go_simp; (try with_reducible rfl))
              (try simp only [Act.put, List.setIfInBounds_toArray, List.set_cons_zero, List.set_cons_succ])
              refine wpAnyH_take (i := 18) (oi := ({ dst := some 66, op := Op.load 3 (Operand.tmp 65), type := 3, pos := "ref.go:261", after := #[{ on := 17, ground := Ground.data }, { on := 14, ground := Ground.guard }], guard := some (14, false) })) (v := ?_) rfl (by kernel_rfl) (by kernel_rfl) (by kernel_rfl) (fun _ _ _ h => h) (Or.inl ⟨by rfl, ?_⟩) (by assumption) ?_
              rotate_left
              · (intro w hSw; (try dsimp only at hSw); go_simp; (try with_reducible rfl))
              (try simp only [Act.put, List.setIfInBounds_toArray, List.set_cons_zero, List.set_cons_succ])
              refine wpAnyH_take (i := 19) (oi := ({ dst := some 67, op := Op.move (Operand.tmp 7), type := 51, pos := "ref.go:261", after := #[{ on := 14, ground := Ground.guard }], guard := some (14, false) })) (v := ?_) rfl (by kernel_rfl) (by kernel_rfl) (by kernel_rfl) (fun _ _ _ h => h) (Or.inl ⟨by rfl, ?_⟩) (by assumption) ?_
              rotate_left
              · (intro w hSw; (try dsimp only at hSw); go_simp; (try with_reducible rfl))
              (try simp only [Act.put, List.setIfInBounds_toArray, List.set_cons_zero, List.set_cons_succ])
              refine wpAnyH_take (i := 20) (oi := ({ dst := some 68, op := Op.indexAddr 51 (Operand.tmp 67) (Operand.const (Value.int IntKind.i64 2)), type := 0, pos := "ref.go:261", after := #[{ on := 19, ground := Ground.data }, { on := 14, ground := Ground.guard }], guard := some (14, false) })) (v := ?_) rfl (by kernel_rfl) (by kernel_rfl) (by kernel_rfl) (fun _ _ _ h => h) (Or.inl ⟨by rfl, ?_⟩) (by assumption) ?_
              rotate_left
              · (intro w hSw; (try dsimp only at hSw); go_simp; (try with_reducible rfl))
              (try simp only [Act.put, List.setIfInBounds_toArray, List.set_cons_zero, List.set_cons_succ])
              refine wpAnyH_take (i := 21) (oi := ({ dst := some 69, op := Op.load 3 (Operand.tmp 68), type := 3, pos := "ref.go:261", after := #[{ on := 20, ground := Ground.data }, { on := 14, ground := Ground.guard }], guard := some (14, false) })) (v := ?_) rfl (by kernel_rfl) (by kernel_rfl) (by kernel_rfl) (fun _ _ _ h => h) (Or.inl ⟨by rfl, ?_⟩) (by assumption) ?_
              rotate_left
              · (intro w hSw; (try dsimp only at hSw); go_simp; (try with_reducible rfl))
              (try simp only [Act.put, List.setIfInBounds_toArray, List.set_cons_zero, List.set_cons_succ])
              refine wpAnyH_ready (rs := [22]) (by kernel_rfl) (by simp) ?_
              refine AllReadyH.cons (o := ({ dst := some 70, op := Op.call { callee := Callee.value (Operand.func 22), args := #[Operand.tmp 63, Operand.tmp 66, Operand.tmp 69], argTypes := #[27, 3, 3] }, type := 24, pos := "ref.go:261", after := #[{ on := 15, ground := Ground.data }, { on := 18, ground := Ground.data }, { on := 21, ground := Ground.data }, { on := 14, ground := Ground.chain }, { on := 14, ground := Ground.guard }], guard := some (14, false) })) rfl (fun K hK => ?_) AllReadyH.nil
              go_simp
              go_at_call 22; refine (kU.out _ HR3.out).mono ?_; rintro e u4 ⟨rfl, hl4⟩; have HR4 := hidW (HR3.out.left hl4 HU.out); have HG4 := hidW (DLeft.ints HR3.out.lies hl4 HG3.out); obtain ⟨t0, t1, t2, t3⟩ := row4 HG4.out; clear hl4
              (try go_wp2_with fail)
              refine hK.out _ _ ⟨t0, t1, t2, t3⟩ (fun hHeld => ?_)
              clear hK K
              (try simp only [Act.put, List.setIfInBounds_toArray, List.set_cons_zero, List.set_cons_succ])
              refine wpAnyH_take (i := 23) (oi := ({ dst := some 71, op := Op.binOp BinOp.neq 24 (Operand.tmp 70) (Operand.const (Value.int IntKind.i64 0)) 24, type := 4, pos := "ref.go:261", after := #[{ on := 22, ground := Ground.data }, { on := 14, ground := Ground.guard }], guard := some (14, false) })) (v := ?_) rfl (by kernel_rfl) (by kernel_rfl) (by kernel_rfl) (fun _ _ _ h => h) (Or.inl ⟨by rfl, ?_⟩) (by assumption) ?_
              rotate_left
              · (intro w hSw; (try dsimp only at hSw); go_simp; (try with_reducible rfl))
              (try simp only [Act.put, List.setIfInBounds_toArray, List.set_cons_zero, List.set_cons_succ])
              refine wpAnyH_take (i := 24) (oi := ({ dst := some 72, op := Op.pick (Operand.tmp 62) (Operand.const (Value.bool true)) (Operand.tmp 71), type := 4, pos := "ref.go:261", after := #[{ on := 14, ground := Ground.data }, { on := 23, ground := Ground.data }], guard := none })) (v := ?_) rfl (by kernel_rfl) (by kernel_rfl) (by kernel_rfl) (fun _ _ _ h => h) (Or.inl ⟨by rfl, ?_⟩) (by assumption) ?_
              rotate_left
              · (intro w hSw; (try dsimp only at hSw); go_simp; (try with_reducible rfl))
              (try simp only [Act.put, List.setIfInBounds_toArray, List.set_cons_zero, List.set_cons_succ])
              refine wpAnyH_take (i := 25) (oi := ({ dst := some 73, op := Op.move (Operand.tmp 72), type := 4, pos := "ref.go:261", after := #[{ on := 24, ground := Ground.data }, { on := 22, ground := Ground.chain }], guard := none })) (v := ?_) rfl (by kernel_rfl) (by kernel_rfl) (by kernel_rfl) (fun _ _ _ h => h) (Or.inl ⟨by rfl, ?_⟩) (by assumption) ?_
              rotate_left
              · (intro w hSw; (try dsimp only at hSw); go_simp; (try with_reducible rfl))
              (try simp only [Act.put, List.setIfInBounds_toArray, List.set_cons_zero, List.set_cons_succ])
              refine wpAnyH_take (i := 26) (oi := ({ dst := some 74, op := Op.move (Operand.tmp 7), type := 51, pos := "ref.go:261", after := #[{ on := 25, ground := Ground.guard }], guard := some (25, false) })) (v := ?_) rfl (by kernel_rfl) (by kernel_rfl) (by kernel_rfl) (fun _ _ _ h => h) (Or.inl ⟨by rfl, ?_⟩) (by assumption) ?_
              rotate_left
              · (intro w hSw; (try dsimp only at hSw); go_simp; (try with_reducible rfl))
              (try simp only [Act.put, List.setIfInBounds_toArray, List.set_cons_zero, List.set_cons_succ])
              refine wpAnyH_take (i := 27) (oi := ({ dst := some 75, op := Op.indexAddr 51 (Operand.tmp 74) (Operand.const (Value.int IntKind.i64 3)), type := 0, pos := "ref.go:261", after := #[{ on := 26, ground := Ground.data }, { on := 25, ground := Ground.guard }], guard := some (25, false) })) (v := ?_) rfl (by kernel_rfl) (by kernel_rfl) (by kernel_rfl) (fun _ _ _ h => h) (Or.inl ⟨by rfl, ?_⟩) (by assumption) ?_
              rotate_left
              · (intro w hSw; (try dsimp only at hSw); go_simp; (try with_reducible rfl))
              (try simp only [Act.put, List.setIfInBounds_toArray, List.set_cons_zero, List.set_cons_succ])
              refine wpAnyH_take (i := 28) (oi := ({ dst := some 76, op := Op.load 3 (Operand.tmp 75), type := 3, pos := "ref.go:261", after := #[{ on := 27, ground := Ground.data }, { on := 25, ground := Ground.guard }], guard := some (25, false) })) (v := ?_) rfl (by kernel_rfl) (by kernel_rfl) (by kernel_rfl) (fun _ _ _ h => h) (Or.inl ⟨by rfl, ?_⟩) (by assumption) ?_
              rotate_left
              · (intro w hSw; (try dsimp only at hSw); go_simp; (try with_reducible rfl))
              (try simp only [Act.put, List.setIfInBounds_toArray, List.set_cons_zero, List.set_cons_succ])
              refine wpAnyH_take (i := 29) (oi := ({ dst := some 77, op := Op.move (Operand.tmp 7), type := 51, pos := "ref.go:261", after := #[{ on := 25, ground := Ground.guard }], guard := some (25, false) })) (v := ?_) rfl (by kernel_rfl) (by kernel_rfl) (by kernel_rfl) (fun _ _ _ h => h) (Or.inl ⟨by rfl, ?_⟩) (by assumption) ?_
              rotate_left
              · (intro w hSw; (try dsimp only at hSw); go_simp; (try with_reducible rfl))
              (try simp only [Act.put, List.setIfInBounds_toArray, List.set_cons_zero, List.set_cons_succ])
              refine wpAnyH_take (i := 30) (oi := ({ dst := some 78, op := Op.indexAddr 51 (Operand.tmp 77) (Operand.const (Value.int IntKind.i64 2)), type := 0, pos := "ref.go:261", after := #[{ on := 29, ground := Ground.data }, { on := 25, ground := Ground.guard }], guard := some (25, false) })) (v := ?_) rfl (by kernel_rfl) (by kernel_rfl) (by kernel_rfl) (fun _ _ _ h => h) (Or.inl ⟨by rfl, ?_⟩) (by assumption) ?_
              rotate_left
              · (intro w hSw; (try dsimp only at hSw); go_simp; (try with_reducible rfl))
              (try simp only [Act.put, List.setIfInBounds_toArray, List.set_cons_zero, List.set_cons_succ])
              refine wpAnyH_take (i := 31) (oi := ({ dst := some 79, op := Op.load 3 (Operand.tmp 78), type := 3, pos := "ref.go:261", after := #[{ on := 30, ground := Ground.data }, { on := 25, ground := Ground.guard }], guard := some (25, false) })) (v := ?_) rfl (by kernel_rfl) (by kernel_rfl) (by kernel_rfl) (fun _ _ _ h => h) (Or.inl ⟨by rfl, ?_⟩) (by assumption) ?_
              rotate_left
              · (intro w hSw; (try dsimp only at hSw); go_simp; (try with_reducible rfl))
              (try simp only [Act.put, List.setIfInBounds_toArray, List.set_cons_zero, List.set_cons_succ])
              refine wpAnyH_take (i := 32) (oi := ({ dst := some 80, op := Op.binOp BinOp.gtr 3 (Operand.tmp 76) (Operand.tmp 79) 3, type := 4, pos := "ref.go:261", after := #[{ on := 28, ground := Ground.data }, { on := 31, ground := Ground.data }, { on := 25, ground := Ground.guard }], guard := some (25, false) })) (v := ?_) rfl (by kernel_rfl) (by kernel_rfl) (by kernel_rfl) (fun _ _ _ h => h) (Or.inl ⟨by rfl, ?_⟩) (by assumption) ?_
              rotate_left
              · (intro w hSw; (try dsimp only at hSw); go_simp; (try with_reducible rfl))
              (try simp only [Act.put, List.setIfInBounds_toArray, List.set_cons_zero, List.set_cons_succ])
              refine wpAnyH_take (i := 33) (oi := ({ dst := some 81, op := Op.pick (Operand.tmp 73) (Operand.const (Value.bool true)) (Operand.tmp 80), type := 4, pos := "ref.go:261", after := #[{ on := 25, ground := Ground.data }, { on := 32, ground := Ground.data }], guard := none })) (v := ?_) rfl (by kernel_rfl) (by kernel_rfl) (by kernel_rfl) (fun _ _ _ h => h) (Or.inl ⟨by rfl, ?_⟩) (by assumption) ?_
              rotate_left
              · (intro w hSw; (try dsimp only at hSw); go_simp; (try with_reducible rfl))
              (try simp only [Act.put, List.setIfInBounds_toArray, List.set_cons_zero, List.set_cons_succ])
              refine wpAnyH_take (i := 34) (oi := ({ dst := some 82, op := Op.move (Operand.tmp 81), type := 4, pos := "ref.go:261", after := #[{ on := 33, ground := Ground.data }, { on := 25, ground := Ground.chain }], guard := none })) (v := ?_) rfl (by kernel_rfl) (by kernel_rfl) (by kernel_rfl) (fun _ _ _ h => h) (Or.inl ⟨by rfl, ?_⟩) (by assumption) ?_
              rotate_left
              · (intro w hSw; (try dsimp only at hSw); go_simp; (try with_reducible rfl))
              (try simp only [Act.put, List.setIfInBounds_toArray, List.set_cons_zero, List.set_cons_succ])
              refine wpAnyH_take (i := 35) (oi := ({ dst := some 83, op := Op.move (Operand.tmp 8), type := 27, pos := "ref.go:261", after := #[{ on := 34, ground := Ground.guard }], guard := some (34, false) })) (v := undef) rfl (by kernel_rfl) (by kernel_rfl) (by kernel_rfl) (fun _ _ _ h => h) (Or.inr ⟨by rfl, rfl⟩) (by assumption) ?_
              (try simp only [Act.put, List.setIfInBounds_toArray, List.set_cons_zero, List.set_cons_succ])
              refine wpAnyH_take (i := 36) (oi := ({ dst := some 84, op := Op.move (Operand.tmp 7), type := 51, pos := "ref.go:261", after := #[{ on := 34, ground := Ground.guard }], guard := some (34, false) })) (v := undef) rfl (by kernel_rfl) (by kernel_rfl) (by kernel_rfl) (fun _ _ _ h => h) (Or.inr ⟨by rfl, rfl⟩) (by assumption) ?_
              (try simp only [Act.put, List.setIfInBounds_toArray, List.set_cons_zero, List.set_cons_succ])
              refine wpAnyH_take (i := 37) (oi := ({ dst := some 85, op := Op.indexAddr 51 (Operand.tmp 84) (Operand.const (Value.int IntKind.i64 0)), type := 0, pos := "ref.go:261", after := #[{ on := 36, ground := Ground.data }, { on := 34, ground := Ground.guard }], guard := some (34, false) })) (v := undef) rfl (by kernel_rfl) (by kernel_rfl) (by kernel_rfl) (fun _ _ _ h => h) (Or.inr ⟨by rfl, rfl⟩) (by assumption) ?_
              (try simp only [Act.put, List.setIfInBounds_toArray, List.set_cons_zero, List.set_cons_succ])
              refine wpAnyH_take (i := 38) (oi := ({ dst := some 86, op := Op.load 3 (Operand.tmp 85), type := 3, pos := "ref.go:261", after := #[{ on := 37, ground := Ground.data }, { on := 34, ground := Ground.guard }], guard := some (34, false) })) (v := undef) rfl (by kernel_rfl) (by kernel_rfl) (by kernel_rfl) (fun _ _ _ h => h) (Or.inr ⟨by rfl, rfl⟩) (by assumption) ?_
              (try simp only [Act.put, List.setIfInBounds_toArray, List.set_cons_zero, List.set_cons_succ])
              refine wpAnyH_take (i := 39) (oi := ({ dst := some 87, op := Op.move (Operand.tmp 7), type := 51, pos := "ref.go:261", after := #[{ on := 34, ground := Ground.guard }], guard := some (34, false) })) (v := undef) rfl (by kernel_rfl) (by kernel_rfl) (by kernel_rfl) (fun _ _ _ h => h) (Or.inr ⟨by rfl, rfl⟩) (by assumption) ?_
              (try simp only [Act.put, List.setIfInBounds_toArray, List.set_cons_zero, List.set_cons_succ])
              refine wpAnyH_take (i := 40) (oi := ({ dst := some 88, op := Op.indexAddr 51 (Operand.tmp 87) (Operand.const (Value.int IntKind.i64 2)), type := 0, pos := "ref.go:261", after := #[{ on := 39, ground := Ground.data }, { on := 34, ground := Ground.guard }], guard := some (34, false) })) (v := undef) rfl (by kernel_rfl) (by kernel_rfl) (by kernel_rfl) (fun _ _ _ h => h) (Or.inr ⟨by rfl, rfl⟩) (by assumption) ?_
              (try simp only [Act.put, List.setIfInBounds_toArray, List.set_cons_zero, List.set_cons_succ])
              refine wpAnyH_take (i := 41) (oi := ({ dst := some 89, op := Op.load 3 (Operand.tmp 88), type := 3, pos := "ref.go:261", after := #[{ on := 40, ground := Ground.data }, { on := 34, ground := Ground.guard }], guard := some (34, false) })) (v := undef) rfl (by kernel_rfl) (by kernel_rfl) (by kernel_rfl) (fun _ _ _ h => h) (Or.inr ⟨by rfl, rfl⟩) (by assumption) ?_
              (try simp only [Act.put, List.setIfInBounds_toArray, List.set_cons_zero, List.set_cons_succ])
              refine wpAnyH_take (i := 42) (oi := ({ dst := some 90, op := Op.move (Operand.tmp 7), type := 51, pos := "ref.go:261", after := #[{ on := 34, ground := Ground.guard }], guard := some (34, false) })) (v := undef) rfl (by kernel_rfl) (by kernel_rfl) (by kernel_rfl) (fun _ _ _ h => h) (Or.inr ⟨by rfl, rfl⟩) (by assumption) ?_
              (try simp only [Act.put, List.setIfInBounds_toArray, List.set_cons_zero, List.set_cons_succ])
              refine wpAnyH_take (i := 43) (oi := ({ dst := some 91, op := Op.indexAddr 51 (Operand.tmp 90) (Operand.const (Value.int IntKind.i64 3)), type := 0, pos := "ref.go:261", after := #[{ on := 42, ground := Ground.data }, { on := 34, ground := Ground.guard }], guard := some (34, false) })) (v := undef) rfl (by kernel_rfl) (by kernel_rfl) (by kernel_rfl) (fun _ _ _ h => h) (Or.inr ⟨by rfl, rfl⟩) (by assumption) ?_
              (try simp only [Act.put, List.setIfInBounds_toArray, List.set_cons_zero, List.set_cons_succ])
              refine wpAnyH_take (i := 44) (oi := ({ dst := some 92, op := Op.load 3 (Operand.tmp 91), type := 3, pos := "ref.go:261", after := #[{ on := 43, ground := Ground.data }, { on := 34, ground := Ground.guard }], guard := some (34, false) })) (v := undef) rfl (by kernel_rfl) (by kernel_rfl) (by kernel_rfl) (fun _ _ _ h => h) (Or.inr ⟨by rfl, rfl⟩) (by assumption) ?_
              (try simp only [Act.put, List.setIfInBounds_toArray, List.set_cons_zero, List.set_cons_succ])
              refine wpAnyH_take (i := 45) (oi := ({ dst := some 93, op := Op.binOp BinOp.sub 3 (Operand.tmp 89) (Operand.tmp 92) 3, type := 3, pos := "ref.go:261", after := #[{ on := 41, ground := Ground.data }, { on := 44, ground := Ground.data }, { on := 34, ground := Ground.guard }], guard := some (34, false) })) (v := undef) rfl (by kernel_rfl) (by kernel_rfl) (by kernel_rfl) (fun _ _ _ h => h) (Or.inr ⟨by rfl, rfl⟩) (by assumption) ?_
              (try simp only [Act.put, List.setIfInBounds_toArray, List.set_cons_zero, List.set_cons_succ])
              refine wpAnyH_take (i := 46) (oi := ({ dst := some 94, op := Op.call { callee := Callee.value (Operand.func 23), args := #[Operand.tmp 83, Operand.tmp 86, Operand.tmp 93], argTypes := #[27, 3, 3] }, type := 24, pos := "ref.go:261", after := #[{ on := 35, ground := Ground.data }, { on := 38, ground := Ground.data }, { on := 45, ground := Ground.data }, { on := 34, ground := Ground.chain }, { on := 34, ground := Ground.guard }], guard := some (34, false) })) (v := undef) rfl (by kernel_rfl) (by kernel_rfl) (by kernel_rfl) (fun _ _ _ h => h) (Or.inr ⟨by rfl, rfl⟩) (by assumption) ?_
              (try simp only [Act.put, List.setIfInBounds_toArray, List.set_cons_zero, List.set_cons_succ])
              refine wpAnyH_take (i := 47) (oi := ({ dst := some 95, op := Op.binOp BinOp.neq 24 (Operand.tmp 94) (Operand.const (Value.int IntKind.i64 0)) 24, type := 4, pos := "ref.go:261", after := #[{ on := 46, ground := Ground.data }, { on := 34, ground := Ground.guard }], guard := some (34, false) })) (v := undef) rfl (by kernel_rfl) (by kernel_rfl) (by kernel_rfl) (fun _ _ _ h => h) (Or.inr ⟨by rfl, rfl⟩) (by assumption) ?_
              (try simp only [Act.put, List.setIfInBounds_toArray, List.set_cons_zero, List.set_cons_succ])
              refine wpAnyH_take (i := 48) (oi := ({ dst := some 96, op := Op.pick (Operand.tmp 82) (Operand.const (Value.bool true)) (Operand.tmp 95), type := 4, pos := "ref.go:261", after := #[{ on := 34, ground := Ground.data }, { on := 47, ground := Ground.data }], guard := none })) (v := ?_) rfl (by kernel_rfl) (by kernel_rfl) (by kernel_rfl) (fun _ _ _ h => h) (Or.inl ⟨by rfl, ?_⟩) (by assumption) ?_
              rotate_left
              · (intro w hSw; (try dsimp only at hSw); go_simp; (try with_reducible rfl))
              (try simp only [Act.put, List.setIfInBounds_toArray, List.set_cons_zero, List.set_cons_succ])
              refine wpAnyH_done (by kernel_rfl) ?_ _
              go_wp2
              go_ret2
              exact dpar_none HP.out HR4.out.bel
            · have hcd2 : decide (c < d) = false := by simp; omega
              have hcd3 : ¬ d > c := hcd
              obtain ⟨ee, hee⟩ : ∃ ee, c - d = ee := ⟨_, rfl⟩
              have hwe : IntKind.i64.wrap ee = ee := by rw [IntKind.wrap_i64]; omega
              rw [hee] at kK
              by_cases eK : K1 = 0
              · have fK : (K1 != 0) = false := by simpa using eK
                have HDr2 := hidW (show drow size l L = if shut L = true then some Z2 else some K2 by rw [HDr.out, if_neg (by simp [eT]), if_neg (by simp [eU]), if_neg hcd, if_neg (by simp [eK])])
                clear eT eU eK
                have HNx := hidW (fun l' (e : drow size l L = some l') => show dread s = (drowsA size l' R).map (fun l => (size, l)) by rw [HI.out.2, HSt.out, e])
                go_wp2_with (first
          | (go_at_call 38; refine (kC2.out _).mono ?_; rintro e u1 ⟨rfl, hb1⟩; have HR1 := hidW (HR.out.later hb1); clear hb1)
          | (go_at_call 39; refine (kN2.out _).mono ?_; rintro e u2 ⟨v2, rfl, ho2, hb2⟩; obtain ⟨g2, cc2, rfl, _, _, _, hr2⟩ := Row.of_owns ho2 (by simp); have HR2 := hidW ((HR1.out.later hb2).later (Below.refl _ _).drew); have HG2 := hidW hr2.drew; obtain ⟨r0, r1, r2, r3⟩ := row4 hr2.drew; clear hb2 ho2 hr2; simp only [List.length_cons, List.length_nil, Nat.reduceAdd]))
                refine wp_region_held_drew (S := (fun w' => w'.cell? ⟨g2, 0, none⟩ = some (.int .i64 a) ∧ w'.cell? ⟨g2, 1, none⟩ = some (.int .i64 b) ∧ w'.cell? ⟨g2, 2, none⟩ = some (.int .i64 c) ∧ w'.cell? ⟨g2, 3, none⟩ = some (.int .i64 d))) (by kernel_rfl) ⟨r0, r1, r2, r3⟩ (fun hHeld => ?_)
                refine wpAnyH_take (i := 0) (oi := ({ dst := some 48, op := Op.move (Operand.tmp 7), type := 51, pos := "ref.go:261", after := #[], guard := none })) (v := ?_) rfl (by kernel_rfl) (by kernel_rfl) (by kernel_rfl) (fun _ _ _ h => h) (Or.inl ⟨by rfl, ?_⟩) (by assumption) ?_
                rotate_left
                · (intro w hSw; (try dsimp only at hSw); go_simp; (try with_reducible rfl))
                (try simp only [Act.put, List.setIfInBounds_toArray, List.set_cons_zero, List.set_cons_succ])
                refine wpAnyH_take (i := 1) (oi := ({ dst := some 49, op := Op.call { callee := Callee.builtin Builtin.len, args := #[Operand.tmp 48], argTypes := #[51] }, type := 3, pos := "ref.go:261", after := #[{ on := 0, ground := Ground.data }], guard := none })) (v := ?_) rfl (by kernel_rfl) (by kernel_rfl) (by kernel_rfl) (fun _ _ _ h => h) (Or.inl ⟨by rfl, ?_⟩) (by assumption) ?_
                rotate_left
                · (intro w hSw; (try dsimp only at hSw); go_simp; (try with_reducible rfl))
                (try simp only [Act.put, List.setIfInBounds_toArray, List.set_cons_zero, List.set_cons_succ])
                refine wpAnyH_take (i := 2) (oi := ({ dst := some 50, op := Op.binOp BinOp.neq 3 (Operand.tmp 49) (Operand.const (Value.int IntKind.i64 4)) 3, type := 4, pos := "ref.go:261", after := #[{ on := 1, ground := Ground.data }], guard := none })) (v := ?_) rfl (by kernel_rfl) (by kernel_rfl) (by kernel_rfl) (fun _ _ _ h => h) (Or.inl ⟨by rfl, ?_⟩) (by assumption) ?_
                rotate_left
                · (intro w hSw; (try dsimp only at hSw); go_simp; (try with_reducible rfl))
                (try simp only [Act.put, List.setIfInBounds_toArray, List.set_cons_zero, List.set_cons_succ])
                refine wpAnyH_take (i := 3) (oi := ({ dst := some 51, op := Op.move (Operand.tmp 50), type := 4, pos := "ref.go:261", after := #[{ on := 2, ground := Ground.data }], guard := none })) (v := ?_) rfl (by kernel_rfl) (by kernel_rfl) (by kernel_rfl) (fun _ _ _ h => h) (Or.inl ⟨by rfl, ?_⟩) (by assumption) ?_
                rotate_left
                · (intro w hSw; (try dsimp only at hSw); go_simp; (try with_reducible rfl))
                (try simp only [Act.put, List.setIfInBounds_toArray, List.set_cons_zero, List.set_cons_succ])
                refine wpAnyH_take (i := 4) (oi := ({ dst := some 52, op := Op.move (Operand.tmp 8), type := 27, pos := "ref.go:261", after := #[{ on := 3, ground := Ground.guard }], guard := some (3, false) })) (v := ?_) rfl (by kernel_rfl) (by kernel_rfl) (by kernel_rfl) (fun _ _ _ h => h) (Or.inl ⟨by rfl, ?_⟩) (by assumption) ?_
                rotate_left
                · (intro w hSw; (try dsimp only at hSw); go_simp; (try with_reducible rfl))
                (try simp only [Act.put, List.setIfInBounds_toArray, List.set_cons_zero, List.set_cons_succ])
                refine wpAnyH_take (i := 5) (oi := ({ dst := some 53, op := Op.move (Operand.tmp 7), type := 51, pos := "ref.go:261", after := #[{ on := 3, ground := Ground.guard }], guard := some (3, false) })) (v := ?_) rfl (by kernel_rfl) (by kernel_rfl) (by kernel_rfl) (fun _ _ _ h => h) (Or.inl ⟨by rfl, ?_⟩) (by assumption) ?_
                rotate_left
                · (intro w hSw; (try dsimp only at hSw); go_simp; (try with_reducible rfl))
                (try simp only [Act.put, List.setIfInBounds_toArray, List.set_cons_zero, List.set_cons_succ])
                refine wpAnyH_take (i := 6) (oi := ({ dst := some 54, op := Op.indexAddr 51 (Operand.tmp 53) (Operand.const (Value.int IntKind.i64 0)), type := 0, pos := "ref.go:261", after := #[{ on := 5, ground := Ground.data }, { on := 3, ground := Ground.guard }], guard := some (3, false) })) (v := ?_) rfl (by kernel_rfl) (by kernel_rfl) (by kernel_rfl) (fun _ _ _ h => h) (Or.inl ⟨by rfl, ?_⟩) (by assumption) ?_
                rotate_left
                · (intro w hSw; (try dsimp only at hSw); go_simp; (try with_reducible rfl))
                (try simp only [Act.put, List.setIfInBounds_toArray, List.set_cons_zero, List.set_cons_succ])
                refine wpAnyH_take (i := 7) (oi := ({ dst := some 55, op := Op.load 3 (Operand.tmp 54), type := 3, pos := "ref.go:261", after := #[{ on := 6, ground := Ground.data }, { on := 3, ground := Ground.guard }], guard := some (3, false) })) (v := ?_) rfl (by kernel_rfl) (by kernel_rfl) (by kernel_rfl) (fun _ _ _ h => h) (Or.inl ⟨by rfl, ?_⟩) (by assumption) ?_
                rotate_left
                · (intro w hSw; (try dsimp only at hSw); go_simp; (try with_reducible rfl))
                (try simp only [Act.put, List.setIfInBounds_toArray, List.set_cons_zero, List.set_cons_succ])
                refine wpAnyH_take (i := 8) (oi := ({ dst := some 56, op := Op.move (Operand.tmp 7), type := 51, pos := "ref.go:261", after := #[{ on := 3, ground := Ground.guard }], guard := some (3, false) })) (v := ?_) rfl (by kernel_rfl) (by kernel_rfl) (by kernel_rfl) (fun _ _ _ h => h) (Or.inl ⟨by rfl, ?_⟩) (by assumption) ?_
                rotate_left
                · (intro w hSw; (try dsimp only at hSw); go_simp; (try with_reducible rfl))
                (try simp only [Act.put, List.setIfInBounds_toArray, List.set_cons_zero, List.set_cons_succ])
                refine wpAnyH_take (i := 9) (oi := ({ dst := some 57, op := Op.indexAddr 51 (Operand.tmp 56) (Operand.const (Value.int IntKind.i64 1)), type := 0, pos := "ref.go:261", after := #[{ on := 8, ground := Ground.data }, { on := 3, ground := Ground.guard }], guard := some (3, false) })) (v := ?_) rfl (by kernel_rfl) (by kernel_rfl) (by kernel_rfl) (fun _ _ _ h => h) (Or.inl ⟨by rfl, ?_⟩) (by assumption) ?_
                rotate_left
                · (intro w hSw; (try dsimp only at hSw); go_simp; (try with_reducible rfl))
                (try simp only [Act.put, List.setIfInBounds_toArray, List.set_cons_zero, List.set_cons_succ])
                refine wpAnyH_take (i := 10) (oi := ({ dst := some 58, op := Op.load 3 (Operand.tmp 57), type := 3, pos := "ref.go:261", after := #[{ on := 9, ground := Ground.data }, { on := 3, ground := Ground.guard }], guard := some (3, false) })) (v := ?_) rfl (by kernel_rfl) (by kernel_rfl) (by kernel_rfl) (fun _ _ _ h => h) (Or.inl ⟨by rfl, ?_⟩) (by assumption) ?_
                rotate_left
                · (intro w hSw; (try dsimp only at hSw); go_simp; (try with_reducible rfl))
                (try simp only [Act.put, List.setIfInBounds_toArray, List.set_cons_zero, List.set_cons_succ])
                refine wpAnyH_ready (rs := [11]) (by kernel_rfl) (by simp) ?_
                refine AllReadyH.cons (o := ({ dst := some 59, op := Op.call { callee := Callee.value (Operand.func 21), args := #[Operand.tmp 52, Operand.tmp 55, Operand.tmp 58], argTypes := #[27, 3, 3] }, type := 24, pos := "ref.go:261", after := #[{ on := 4, ground := Ground.data }, { on := 7, ground := Ground.data }, { on := 10, ground := Ground.data }, { on := 3, ground := Ground.chain }, { on := 3, ground := Ground.guard }], guard := some (3, false) })) rfl (fun K hK => ?_) AllReadyH.nil
                go_simp
                go_at_call 21; refine (kT.out _ HR2.out).mono ?_; rintro e u3 ⟨rfl, hl3⟩; have HR3 := hidW (HR2.out.left hl3 HT.out); have HG3 := hidW (DLeft.ints HR2.out.lies hl3 HG2.out); obtain ⟨s0, s1, s2, s3⟩ := row4 HG3.out; clear hl3
                (try go_wp2_with fail)
                refine hK.out _ _ ⟨s0, s1, s2, s3⟩ (fun hHeld => ?_)
                clear hK K
                (try simp only [Act.put, List.setIfInBounds_toArray, List.set_cons_zero, List.set_cons_succ])
                refine wpAnyH_take (i := 12) (oi := ({ dst := some 60, op := Op.binOp BinOp.neq 24 (Operand.tmp 59) (Operand.const (Value.int IntKind.i64 0)) 24, type := 4, pos := "ref.go:261", after := #[{ on := 11, ground := Ground.data }, { on := 3, ground := Ground.guard }], guard := some (3, false) })) (v := ?_) rfl (by kernel_rfl) (by kernel_rfl) (by kernel_rfl) (fun _ _ _ h => h) (Or.inl ⟨by rfl, ?_⟩) (by assumption) ?_
                rotate_left
                · (intro w hSw; (try dsimp only at hSw); go_simp; (try with_reducible rfl))
                (try simp only [Act.put, List.setIfInBounds_toArray, List.set_cons_zero, List.set_cons_succ])
                refine wpAnyH_take (i := 13) (oi := ({ dst := some 61, op := Op.pick (Operand.tmp 51) (Operand.const (Value.bool true)) (Operand.tmp 60), type := 4, pos := "ref.go:261", after := #[{ on := 3, ground := Ground.data }, { on := 12, ground := Ground.data }], guard := none })) (v := ?_) rfl (by kernel_rfl) (by kernel_rfl) (by kernel_rfl) (fun _ _ _ h => h) (Or.inl ⟨by rfl, ?_⟩) (by assumption) ?_
                rotate_left
                · (intro w hSw; (try dsimp only at hSw); go_simp; (try with_reducible rfl))
                (try simp only [Act.put, List.setIfInBounds_toArray, List.set_cons_zero, List.set_cons_succ])
                refine wpAnyH_take (i := 14) (oi := ({ dst := some 62, op := Op.move (Operand.tmp 61), type := 4, pos := "ref.go:261", after := #[{ on := 13, ground := Ground.data }, { on := 11, ground := Ground.chain }], guard := none })) (v := ?_) rfl (by kernel_rfl) (by kernel_rfl) (by kernel_rfl) (fun _ _ _ h => h) (Or.inl ⟨by rfl, ?_⟩) (by assumption) ?_
                rotate_left
                · (intro w hSw; (try dsimp only at hSw); go_simp; (try with_reducible rfl))
                (try simp only [Act.put, List.setIfInBounds_toArray, List.set_cons_zero, List.set_cons_succ])
                refine wpAnyH_take (i := 15) (oi := ({ dst := some 63, op := Op.move (Operand.tmp 8), type := 27, pos := "ref.go:261", after := #[{ on := 14, ground := Ground.guard }], guard := some (14, false) })) (v := ?_) rfl (by kernel_rfl) (by kernel_rfl) (by kernel_rfl) (fun _ _ _ h => h) (Or.inl ⟨by rfl, ?_⟩) (by assumption) ?_
                rotate_left
                · (intro w hSw; (try dsimp only at hSw); go_simp; (try with_reducible rfl))
                (try simp only [Act.put, List.setIfInBounds_toArray, List.set_cons_zero, List.set_cons_succ])
                refine wpAnyH_take (i := 16) (oi := ({ dst := some 64, op := Op.move (Operand.tmp 7), type := 51, pos := "ref.go:261", after := #[{ on := 14, ground := Ground.guard }], guard := some (14, false) })) (v := ?_) rfl (by kernel_rfl) (by kernel_rfl) (by kernel_rfl) (fun _ _ _ h => h) (Or.inl ⟨by rfl, ?_⟩) (by assumption) ?_
                rotate_left
                · (intro w hSw; (try dsimp only at hSw); go_simp; (try with_reducible rfl))
                (try simp only [Act.put, List.setIfInBounds_toArray, List.set_cons_zero, List.set_cons_succ])
                refine wpAnyH_take (i := 17) (oi := ({ dst := some 65, op := Op.indexAddr 51 (Operand.tmp 64) (Operand.const (Value.int IntKind.i64 0)), type := 0, pos := "ref.go:261", after := #[{ on := 16, ground := Ground.data }, { on := 14, ground := Ground.guard }], guard := some (14, false) })) (v := ?_) rfl (by kernel_rfl) (by kernel_rfl) (by kernel_rfl) (fun _ _ _ h => h) (Or.inl ⟨by rfl, ?_⟩) (by assumption) ?_
                rotate_left
                · (intro w hSw; (try dsimp only at hSw); go_simp; (try with_reducible rfl))
                (try simp only [Act.put, List.setIfInBounds_toArray, List.set_cons_zero, List.set_cons_succ])
                refine wpAnyH_take (i := 18) (oi := ({ dst := some 66, op := Op.load 3 (Operand.tmp 65), type := 3, pos := "ref.go:261", after := #[{ on := 17, ground := Ground.data }, { on := 14, ground := Ground.guard }], guard := some (14, false) })) (v := ?_) rfl (by kernel_rfl) (by kernel_rfl) (by kernel_rfl) (fun _ _ _ h => h) (Or.inl ⟨by rfl, ?_⟩) (by assumption) ?_
                rotate_left
                · (intro w hSw; (try dsimp only at hSw); go_simp; (try with_reducible rfl))
                (try simp only [Act.put, List.setIfInBounds_toArray, List.set_cons_zero, List.set_cons_succ])
                refine wpAnyH_take (i := 19) (oi := ({ dst := some 67, op := Op.move (Operand.tmp 7), type := 51, pos := "ref.go:261", after := #[{ on := 14, ground := Ground.guard }], guard := some (14, false) })) (v := ?_) rfl (by kernel_rfl) (by kernel_rfl) (by kernel_rfl) (fun _ _ _ h => h) (Or.inl ⟨by rfl, ?_⟩) (by assumption) ?_
                rotate_left
                · (intro w hSw; (try dsimp only at hSw); go_simp; (try with_reducible rfl))
                (try simp only [Act.put, List.setIfInBounds_toArray, List.set_cons_zero, List.set_cons_succ])
                refine wpAnyH_take (i := 20) (oi := ({ dst := some 68, op := Op.indexAddr 51 (Operand.tmp 67) (Operand.const (Value.int IntKind.i64 2)), type := 0, pos := "ref.go:261", after := #[{ on := 19, ground := Ground.data }, { on := 14, ground := Ground.guard }], guard := some (14, false) })) (v := ?_) rfl (by kernel_rfl) (by kernel_rfl) (by kernel_rfl) (fun _ _ _ h => h) (Or.inl ⟨by rfl, ?_⟩) (by assumption) ?_
                rotate_left
                · (intro w hSw; (try dsimp only at hSw); go_simp; (try with_reducible rfl))
                (try simp only [Act.put, List.setIfInBounds_toArray, List.set_cons_zero, List.set_cons_succ])
                refine wpAnyH_take (i := 21) (oi := ({ dst := some 69, op := Op.load 3 (Operand.tmp 68), type := 3, pos := "ref.go:261", after := #[{ on := 20, ground := Ground.data }, { on := 14, ground := Ground.guard }], guard := some (14, false) })) (v := ?_) rfl (by kernel_rfl) (by kernel_rfl) (by kernel_rfl) (fun _ _ _ h => h) (Or.inl ⟨by rfl, ?_⟩) (by assumption) ?_
                rotate_left
                · (intro w hSw; (try dsimp only at hSw); go_simp; (try with_reducible rfl))
                (try simp only [Act.put, List.setIfInBounds_toArray, List.set_cons_zero, List.set_cons_succ])
                refine wpAnyH_ready (rs := [22]) (by kernel_rfl) (by simp) ?_
                refine AllReadyH.cons (o := ({ dst := some 70, op := Op.call { callee := Callee.value (Operand.func 22), args := #[Operand.tmp 63, Operand.tmp 66, Operand.tmp 69], argTypes := #[27, 3, 3] }, type := 24, pos := "ref.go:261", after := #[{ on := 15, ground := Ground.data }, { on := 18, ground := Ground.data }, { on := 21, ground := Ground.data }, { on := 14, ground := Ground.chain }, { on := 14, ground := Ground.guard }], guard := some (14, false) })) rfl (fun K hK => ?_) AllReadyH.nil
                go_simp
                go_at_call 22; refine (kU.out _ HR3.out).mono ?_; rintro e u4 ⟨rfl, hl4⟩; have HR4 := hidW (HR3.out.left hl4 HU.out); have HG4 := hidW (DLeft.ints HR3.out.lies hl4 HG3.out); obtain ⟨t0, t1, t2, t3⟩ := row4 HG4.out; clear hl4
                (try go_wp2_with fail)
                refine hK.out _ _ ⟨t0, t1, t2, t3⟩ (fun hHeld => ?_)
                clear hK K
                (try simp only [Act.put, List.setIfInBounds_toArray, List.set_cons_zero, List.set_cons_succ])
                refine wpAnyH_take (i := 23) (oi := ({ dst := some 71, op := Op.binOp BinOp.neq 24 (Operand.tmp 70) (Operand.const (Value.int IntKind.i64 0)) 24, type := 4, pos := "ref.go:261", after := #[{ on := 22, ground := Ground.data }, { on := 14, ground := Ground.guard }], guard := some (14, false) })) (v := ?_) rfl (by kernel_rfl) (by kernel_rfl) (by kernel_rfl) (fun _ _ _ h => h) (Or.inl ⟨by rfl, ?_⟩) (by assumption) ?_
                rotate_left
                · (intro w hSw; (try dsimp only at hSw); go_simp; (try with_reducible rfl))
                (try simp only [Act.put, List.setIfInBounds_toArray, List.set_cons_zero, List.set_cons_succ])
                refine wpAnyH_take (i := 24) (oi := ({ dst := some 72, op := Op.pick (Operand.tmp 62) (Operand.const (Value.bool true)) (Operand.tmp 71), type := 4, pos := "ref.go:261", after := #[{ on := 14, ground := Ground.data }, { on := 23, ground := Ground.data }], guard := none })) (v := ?_) rfl (by kernel_rfl) (by kernel_rfl) (by kernel_rfl) (fun _ _ _ h => h) (Or.inl ⟨by rfl, ?_⟩) (by assumption) ?_
                rotate_left
                · (intro w hSw; (try dsimp only at hSw); go_simp; (try with_reducible rfl))
                (try simp only [Act.put, List.setIfInBounds_toArray, List.set_cons_zero, List.set_cons_succ])
                refine wpAnyH_take (i := 25) (oi := ({ dst := some 73, op := Op.move (Operand.tmp 72), type := 4, pos := "ref.go:261", after := #[{ on := 24, ground := Ground.data }, { on := 22, ground := Ground.chain }], guard := none })) (v := ?_) rfl (by kernel_rfl) (by kernel_rfl) (by kernel_rfl) (fun _ _ _ h => h) (Or.inl ⟨by rfl, ?_⟩) (by assumption) ?_
                rotate_left
                · (intro w hSw; (try dsimp only at hSw); go_simp; (try with_reducible rfl))
                (try simp only [Act.put, List.setIfInBounds_toArray, List.set_cons_zero, List.set_cons_succ])
                refine wpAnyH_take (i := 26) (oi := ({ dst := some 74, op := Op.move (Operand.tmp 7), type := 51, pos := "ref.go:261", after := #[{ on := 25, ground := Ground.guard }], guard := some (25, false) })) (v := ?_) rfl (by kernel_rfl) (by kernel_rfl) (by kernel_rfl) (fun _ _ _ h => h) (Or.inl ⟨by rfl, ?_⟩) (by assumption) ?_
                rotate_left
                · (intro w hSw; (try dsimp only at hSw); go_simp; (try with_reducible rfl))
                (try simp only [Act.put, List.setIfInBounds_toArray, List.set_cons_zero, List.set_cons_succ])
                refine wpAnyH_take (i := 27) (oi := ({ dst := some 75, op := Op.indexAddr 51 (Operand.tmp 74) (Operand.const (Value.int IntKind.i64 3)), type := 0, pos := "ref.go:261", after := #[{ on := 26, ground := Ground.data }, { on := 25, ground := Ground.guard }], guard := some (25, false) })) (v := ?_) rfl (by kernel_rfl) (by kernel_rfl) (by kernel_rfl) (fun _ _ _ h => h) (Or.inl ⟨by rfl, ?_⟩) (by assumption) ?_
                rotate_left
                · (intro w hSw; (try dsimp only at hSw); go_simp; (try with_reducible rfl))
                (try simp only [Act.put, List.setIfInBounds_toArray, List.set_cons_zero, List.set_cons_succ])
                refine wpAnyH_take (i := 28) (oi := ({ dst := some 76, op := Op.load 3 (Operand.tmp 75), type := 3, pos := "ref.go:261", after := #[{ on := 27, ground := Ground.data }, { on := 25, ground := Ground.guard }], guard := some (25, false) })) (v := ?_) rfl (by kernel_rfl) (by kernel_rfl) (by kernel_rfl) (fun _ _ _ h => h) (Or.inl ⟨by rfl, ?_⟩) (by assumption) ?_
                rotate_left
                · (intro w hSw; (try dsimp only at hSw); go_simp; (try with_reducible rfl))
                (try simp only [Act.put, List.setIfInBounds_toArray, List.set_cons_zero, List.set_cons_succ])
                refine wpAnyH_take (i := 29) (oi := ({ dst := some 77, op := Op.move (Operand.tmp 7), type := 51, pos := "ref.go:261", after := #[{ on := 25, ground := Ground.guard }], guard := some (25, false) })) (v := ?_) rfl (by kernel_rfl) (by kernel_rfl) (by kernel_rfl) (fun _ _ _ h => h) (Or.inl ⟨by rfl, ?_⟩) (by assumption) ?_
                rotate_left
                · (intro w hSw; (try dsimp only at hSw); go_simp; (try with_reducible rfl))
                (try simp only [Act.put, List.setIfInBounds_toArray, List.set_cons_zero, List.set_cons_succ])
                refine wpAnyH_take (i := 30) (oi := ({ dst := some 78, op := Op.indexAddr 51 (Operand.tmp 77) (Operand.const (Value.int IntKind.i64 2)), type := 0, pos := "ref.go:261", after := #[{ on := 29, ground := Ground.data }, { on := 25, ground := Ground.guard }], guard := some (25, false) })) (v := ?_) rfl (by kernel_rfl) (by kernel_rfl) (by kernel_rfl) (fun _ _ _ h => h) (Or.inl ⟨by rfl, ?_⟩) (by assumption) ?_
                rotate_left
                · (intro w hSw; (try dsimp only at hSw); go_simp; (try with_reducible rfl))
                (try simp only [Act.put, List.setIfInBounds_toArray, List.set_cons_zero, List.set_cons_succ])
                refine wpAnyH_take (i := 31) (oi := ({ dst := some 79, op := Op.load 3 (Operand.tmp 78), type := 3, pos := "ref.go:261", after := #[{ on := 30, ground := Ground.data }, { on := 25, ground := Ground.guard }], guard := some (25, false) })) (v := ?_) rfl (by kernel_rfl) (by kernel_rfl) (by kernel_rfl) (fun _ _ _ h => h) (Or.inl ⟨by rfl, ?_⟩) (by assumption) ?_
                rotate_left
                · (intro w hSw; (try dsimp only at hSw); go_simp; (try with_reducible rfl))
                (try simp only [Act.put, List.setIfInBounds_toArray, List.set_cons_zero, List.set_cons_succ])
                refine wpAnyH_take (i := 32) (oi := ({ dst := some 80, op := Op.binOp BinOp.gtr 3 (Operand.tmp 76) (Operand.tmp 79) 3, type := 4, pos := "ref.go:261", after := #[{ on := 28, ground := Ground.data }, { on := 31, ground := Ground.data }, { on := 25, ground := Ground.guard }], guard := some (25, false) })) (v := ?_) rfl (by kernel_rfl) (by kernel_rfl) (by kernel_rfl) (fun _ _ _ h => h) (Or.inl ⟨by rfl, ?_⟩) (by assumption) ?_
                rotate_left
                · (intro w hSw; (try dsimp only at hSw); go_simp; (try with_reducible rfl))
                (try simp only [Act.put, List.setIfInBounds_toArray, List.set_cons_zero, List.set_cons_succ])
                refine wpAnyH_take (i := 33) (oi := ({ dst := some 81, op := Op.pick (Operand.tmp 73) (Operand.const (Value.bool true)) (Operand.tmp 80), type := 4, pos := "ref.go:261", after := #[{ on := 25, ground := Ground.data }, { on := 32, ground := Ground.data }], guard := none })) (v := ?_) rfl (by kernel_rfl) (by kernel_rfl) (by kernel_rfl) (fun _ _ _ h => h) (Or.inl ⟨by rfl, ?_⟩) (by assumption) ?_
                rotate_left
                · (intro w hSw; (try dsimp only at hSw); go_simp; (try with_reducible rfl))
                (try simp only [Act.put, List.setIfInBounds_toArray, List.set_cons_zero, List.set_cons_succ])
                refine wpAnyH_take (i := 34) (oi := ({ dst := some 82, op := Op.move (Operand.tmp 81), type := 4, pos := "ref.go:261", after := #[{ on := 33, ground := Ground.data }, { on := 25, ground := Ground.chain }], guard := none })) (v := ?_) rfl (by kernel_rfl) (by kernel_rfl) (by kernel_rfl) (fun _ _ _ h => h) (Or.inl ⟨by rfl, ?_⟩) (by assumption) ?_
                rotate_left
                · (intro w hSw; (try dsimp only at hSw); go_simp; (try with_reducible rfl))
                (try simp only [Act.put, List.setIfInBounds_toArray, List.set_cons_zero, List.set_cons_succ])
                refine wpAnyH_take (i := 35) (oi := ({ dst := some 83, op := Op.move (Operand.tmp 8), type := 27, pos := "ref.go:261", after := #[{ on := 34, ground := Ground.guard }], guard := some (34, false) })) (v := ?_) rfl (by kernel_rfl) (by kernel_rfl) (by kernel_rfl) (fun _ _ _ h => h) (Or.inl ⟨by rfl, ?_⟩) (by assumption) ?_
                rotate_left
                · (intro w hSw; (try dsimp only at hSw); go_simp; (try with_reducible rfl))
                (try simp only [Act.put, List.setIfInBounds_toArray, List.set_cons_zero, List.set_cons_succ])
                refine wpAnyH_take (i := 36) (oi := ({ dst := some 84, op := Op.move (Operand.tmp 7), type := 51, pos := "ref.go:261", after := #[{ on := 34, ground := Ground.guard }], guard := some (34, false) })) (v := ?_) rfl (by kernel_rfl) (by kernel_rfl) (by kernel_rfl) (fun _ _ _ h => h) (Or.inl ⟨by rfl, ?_⟩) (by assumption) ?_
                rotate_left
                · (intro w hSw; (try dsimp only at hSw); go_simp; (try with_reducible rfl))
                (try simp only [Act.put, List.setIfInBounds_toArray, List.set_cons_zero, List.set_cons_succ])
                refine wpAnyH_take (i := 37) (oi := ({ dst := some 85, op := Op.indexAddr 51 (Operand.tmp 84) (Operand.const (Value.int IntKind.i64 0)), type := 0, pos := "ref.go:261", after := #[{ on := 36, ground := Ground.data }, { on := 34, ground := Ground.guard }], guard := some (34, false) })) (v := ?_) rfl (by kernel_rfl) (by kernel_rfl) (by kernel_rfl) (fun _ _ _ h => h) (Or.inl ⟨by rfl, ?_⟩) (by assumption) ?_
                rotate_left
                · (intro w hSw; (try dsimp only at hSw); go_simp; (try with_reducible rfl))
                (try simp only [Act.put, List.setIfInBounds_toArray, List.set_cons_zero, List.set_cons_succ])
                refine wpAnyH_take (i := 38) (oi := ({ dst := some 86, op := Op.load 3 (Operand.tmp 85), type := 3, pos := "ref.go:261", after := #[{ on := 37, ground := Ground.data }, { on := 34, ground := Ground.guard }], guard := some (34, false) })) (v := ?_) rfl (by kernel_rfl) (by kernel_rfl) (by kernel_rfl) (fun _ _ _ h => h) (Or.inl ⟨by rfl, ?_⟩) (by assumption) ?_
                rotate_left
                · (intro w hSw; (try dsimp only at hSw); go_simp; (try with_reducible rfl))
                (try simp only [Act.put, List.setIfInBounds_toArray, List.set_cons_zero, List.set_cons_succ])
                refine wpAnyH_take (i := 39) (oi := ({ dst := some 87, op := Op.move (Operand.tmp 7), type := 51, pos := "ref.go:261", after := #[{ on := 34, ground := Ground.guard }], guard := some (34, false) })) (v := ?_) rfl (by kernel_rfl) (by kernel_rfl) (by kernel_rfl) (fun _ _ _ h => h) (Or.inl ⟨by rfl, ?_⟩) (by assumption) ?_
                rotate_left
                · (intro w hSw; (try dsimp only at hSw); go_simp; (try with_reducible rfl))
                (try simp only [Act.put, List.setIfInBounds_toArray, List.set_cons_zero, List.set_cons_succ])
                refine wpAnyH_take (i := 40) (oi := ({ dst := some 88, op := Op.indexAddr 51 (Operand.tmp 87) (Operand.const (Value.int IntKind.i64 2)), type := 0, pos := "ref.go:261", after := #[{ on := 39, ground := Ground.data }, { on := 34, ground := Ground.guard }], guard := some (34, false) })) (v := ?_) rfl (by kernel_rfl) (by kernel_rfl) (by kernel_rfl) (fun _ _ _ h => h) (Or.inl ⟨by rfl, ?_⟩) (by assumption) ?_
                rotate_left
                · (intro w hSw; (try dsimp only at hSw); go_simp; (try with_reducible rfl))
                (try simp only [Act.put, List.setIfInBounds_toArray, List.set_cons_zero, List.set_cons_succ])
                refine wpAnyH_take (i := 41) (oi := ({ dst := some 89, op := Op.load 3 (Operand.tmp 88), type := 3, pos := "ref.go:261", after := #[{ on := 40, ground := Ground.data }, { on := 34, ground := Ground.guard }], guard := some (34, false) })) (v := ?_) rfl (by kernel_rfl) (by kernel_rfl) (by kernel_rfl) (fun _ _ _ h => h) (Or.inl ⟨by rfl, ?_⟩) (by assumption) ?_
                rotate_left
                · (intro w hSw; (try dsimp only at hSw); go_simp; (try with_reducible rfl))
                (try simp only [Act.put, List.setIfInBounds_toArray, List.set_cons_zero, List.set_cons_succ])
                refine wpAnyH_take (i := 42) (oi := ({ dst := some 90, op := Op.move (Operand.tmp 7), type := 51, pos := "ref.go:261", after := #[{ on := 34, ground := Ground.guard }], guard := some (34, false) })) (v := ?_) rfl (by kernel_rfl) (by kernel_rfl) (by kernel_rfl) (fun _ _ _ h => h) (Or.inl ⟨by rfl, ?_⟩) (by assumption) ?_
                rotate_left
                · (intro w hSw; (try dsimp only at hSw); go_simp; (try with_reducible rfl))
                (try simp only [Act.put, List.setIfInBounds_toArray, List.set_cons_zero, List.set_cons_succ])
                refine wpAnyH_take (i := 43) (oi := ({ dst := some 91, op := Op.indexAddr 51 (Operand.tmp 90) (Operand.const (Value.int IntKind.i64 3)), type := 0, pos := "ref.go:261", after := #[{ on := 42, ground := Ground.data }, { on := 34, ground := Ground.guard }], guard := some (34, false) })) (v := ?_) rfl (by kernel_rfl) (by kernel_rfl) (by kernel_rfl) (fun _ _ _ h => h) (Or.inl ⟨by rfl, ?_⟩) (by assumption) ?_
                rotate_left
                · (intro w hSw; (try dsimp only at hSw); go_simp; (try with_reducible rfl))
                (try simp only [Act.put, List.setIfInBounds_toArray, List.set_cons_zero, List.set_cons_succ])
                refine wpAnyH_take (i := 44) (oi := ({ dst := some 92, op := Op.load 3 (Operand.tmp 91), type := 3, pos := "ref.go:261", after := #[{ on := 43, ground := Ground.data }, { on := 34, ground := Ground.guard }], guard := some (34, false) })) (v := ?_) rfl (by kernel_rfl) (by kernel_rfl) (by kernel_rfl) (fun _ _ _ h => h) (Or.inl ⟨by rfl, ?_⟩) (by assumption) ?_
                rotate_left
                · (intro w hSw; (try dsimp only at hSw); go_simp; (try with_reducible rfl))
                (try simp only [Act.put, List.setIfInBounds_toArray, List.set_cons_zero, List.set_cons_succ])
                refine wpAnyH_take (i := 45) (oi := ({ dst := some 93, op := Op.binOp BinOp.sub 3 (Operand.tmp 89) (Operand.tmp 92) 3, type := 3, pos := "ref.go:261", after := #[{ on := 41, ground := Ground.data }, { on := 44, ground := Ground.data }, { on := 34, ground := Ground.guard }], guard := some (34, false) })) (v := ?_) rfl (by kernel_rfl) (by kernel_rfl) (by kernel_rfl) (fun _ _ _ h => h) (Or.inl ⟨by rfl, ?_⟩) (by assumption) ?_
                rotate_left
                · (intro w hSw; (try dsimp only at hSw); go_simp; (try with_reducible rfl))
                (try simp only [Act.put, List.setIfInBounds_toArray, List.set_cons_zero, List.set_cons_succ])
                refine wpAnyH_ready (rs := [46]) (by kernel_rfl) (by simp) ?_
                refine AllReadyH.cons (o := ({ dst := some 94, op := Op.call { callee := Callee.value (Operand.func 23), args := #[Operand.tmp 83, Operand.tmp 86, Operand.tmp 93], argTypes := #[27, 3, 3] }, type := 24, pos := "ref.go:261", after := #[{ on := 35, ground := Ground.data }, { on := 38, ground := Ground.data }, { on := 45, ground := Ground.data }, { on := 34, ground := Ground.chain }, { on := 34, ground := Ground.guard }], guard := some (34, false) })) rfl (fun K hK => ?_) AllReadyH.nil
                go_simp
                go_at_call 23; refine (kK.out _ HR4.out).mono ?_; rintro e u5 ⟨rfl, hl5⟩; have HR5 := hidW (HR4.out.left hl5 HK.out); have HG5 := hidW (DLeft.ints HR4.out.lies hl5 HG4.out); obtain ⟨y0, y1, y2, y3⟩ := row4 HG5.out; clear hl5
                (try go_wp2_with fail)
                refine hK.out _ _ ⟨y0, y1, y2, y3⟩ (fun hHeld => ?_)
                clear hK K
                (try simp only [Act.put, List.setIfInBounds_toArray, List.set_cons_zero, List.set_cons_succ])
                refine wpAnyH_take (i := 47) (oi := ({ dst := some 95, op := Op.binOp BinOp.neq 24 (Operand.tmp 94) (Operand.const (Value.int IntKind.i64 0)) 24, type := 4, pos := "ref.go:261", after := #[{ on := 46, ground := Ground.data }, { on := 34, ground := Ground.guard }], guard := some (34, false) })) (v := ?_) rfl (by kernel_rfl) (by kernel_rfl) (by kernel_rfl) (fun _ _ _ h => h) (Or.inl ⟨by rfl, ?_⟩) (by assumption) ?_
                rotate_left
                · (intro w hSw; (try dsimp only at hSw); go_simp; (try with_reducible rfl))
                (try simp only [Act.put, List.setIfInBounds_toArray, List.set_cons_zero, List.set_cons_succ])
                refine wpAnyH_take (i := 48) (oi := ({ dst := some 96, op := Op.pick (Operand.tmp 82) (Operand.const (Value.bool true)) (Operand.tmp 95), type := 4, pos := "ref.go:261", after := #[{ on := 34, ground := Ground.data }, { on := 47, ground := Ground.data }], guard := none })) (v := ?_) rfl (by kernel_rfl) (by kernel_rfl) (by kernel_rfl) (fun _ _ _ h => h) (Or.inl ⟨by rfl, ?_⟩) (by assumption) ?_
                rotate_left
                · (intro w hSw; (try dsimp only at hSw); go_simp; (try with_reducible rfl))
                (try simp only [Act.put, List.setIfInBounds_toArray, List.set_cons_zero, List.set_cons_succ])
                refine wpAnyH_done (by kernel_rfl) ?_ _
                have hz := bs_size L
                have HX2 := hidW (ext_drop L)
                obtain ⟨X, hX⟩ : ∃ X, X = bs L := ⟨_, rfl⟩
                rw [← hX] at hz HX2
                rw [← hX]
                clear hX
                by_cases h7 : 7 < L.length
                · obtain ⟨yy, hyy⟩ : ∃ yy, L.length = yy + 7 := ⟨L.length - 7, by omega⟩
                  have hsz : X.size = yy + 7 := by omega
                  have HE2 := hidW (show X.extract yy X.size = bs (L.drop yy) from HX2.out yy)
                  have hg7 : (7 : Int) < (X.size : Int) := by omega
                  have hy0 : (0 : Int) ≤ (yy : Int) := by omega
                  have hy1 : (yy : Int) ≤ (X.size : Int) := by omega
                  have hg8 : (7 : Int) < (yy : Int) + 7 := by omega
                  have HE3 := hidW (show (X.extract yy (yy + 7)).toList = L.drop yy by rw [← hsz, HE2.out, bs_toList])
                  by_cases hc : L.drop yy = closedT
                  · have hcmp : ((X.extract yy (yy + 7)).toList == [32, 99, 108, 111, 115, 101, 100]) = true := by rw [HE3.out, hc]; rfl
                    have HS := hidW (HNx.out Z2 (by rw [HDr2.out, if_pos]; unfold shut; rw [decide_eq_true_iff]; exact ⟨h7, by rw [hyy, Nat.add_sub_cancel]; exact hc⟩))
                    clear hc
                    go_wp2_with ((go_at_call 24; refine (kL.out _ HR5.out).mono ?_; rintro e u6 ⟨rfl, hl6⟩; have HR6 := hidW (HR5.out.left hl6 HL.out); clear hl6))
                    go_roundg (R.length + 1)
                    case measure => omega
                    case rel => exact ⟨R, Z2, by omega, rfl, ⟨HR6.out, HS.out⟩, by omega⟩
                  · have hcmp : ((X.extract yy (yy + 7)).toList == [32, 99, 108, 111, 115, 101, 100]) = false := by rw [HE3.out, beq_eq_false_iff_ne]; exact hc
                    have HS := hidW (HNx.out K2 (by rw [HDr2.out, if_neg]; unfold shut; rw [decide_eq_true_iff]; rintro ⟨_, e⟩; rw [hyy, Nat.add_sub_cancel] at e; exact hc e))
                    clear hc
                    go_wp2
                    go_roundg (R.length + 1)
                    case measure => omega
                    case rel => exact ⟨R, K2, by omega, rfl, ⟨HR5.out, HS.out⟩, by omega⟩
                · have HS := hidW (HNx.out K2 (by rw [HDr2.out, if_neg]; unfold shut; rw [decide_eq_true_iff]; omega))
                  have hg7 : ¬ (7 : Int) < (X.size : Int) := by omega
                  go_wp2
                  go_roundg (R.length + 1)
                  case measure => omega
                  case rel => exact ⟨R, K2, by omega, rfl, ⟨HR5.out, HS.out⟩, by omega⟩
              · have fK : (K1 != 0) = true := by simpa using eK
                have HP := hidW (HNone.out (by rw [HDr.out, if_neg (by simp [eT]), if_neg (by simp [eU]), if_neg hcd, if_pos eK]))
                clear eT eU eK
                go_wp2_with (first
          | (go_at_call 38; refine (kC2.out _).mono ?_; rintro e u1 ⟨rfl, hb1⟩; have HR1 := hidW (HR.out.later hb1); clear hb1)
          | (go_at_call 39; refine (kN2.out _).mono ?_; rintro e u2 ⟨v2, rfl, ho2, hb2⟩; obtain ⟨g2, cc2, rfl, _, _, _, hr2⟩ := Row.of_owns ho2 (by simp); have HR2 := hidW ((HR1.out.later hb2).later (Below.refl _ _).drew); have HG2 := hidW hr2.drew; obtain ⟨r0, r1, r2, r3⟩ := row4 hr2.drew; clear hb2 ho2 hr2; simp only [List.length_cons, List.length_nil, Nat.reduceAdd]))
                refine wp_region_held_drew (S := (fun w' => w'.cell? ⟨g2, 0, none⟩ = some (.int .i64 a) ∧ w'.cell? ⟨g2, 1, none⟩ = some (.int .i64 b) ∧ w'.cell? ⟨g2, 2, none⟩ = some (.int .i64 c) ∧ w'.cell? ⟨g2, 3, none⟩ = some (.int .i64 d))) (by kernel_rfl) ⟨r0, r1, r2, r3⟩ (fun hHeld => ?_)
                refine wpAnyH_take (i := 0) (oi := ({ dst := some 48, op := Op.move (Operand.tmp 7), type := 51, pos := "ref.go:261", after := #[], guard := none })) (v := ?_) rfl (by kernel_rfl) (by kernel_rfl) (by kernel_rfl) (fun _ _ _ h => h) (Or.inl ⟨by rfl, ?_⟩) (by assumption) ?_
                rotate_left
                · (intro w hSw; (try dsimp only at hSw); go_simp; (try with_reducible rfl))
                (try simp only [Act.put, List.setIfInBounds_toArray, List.set_cons_zero, List.set_cons_succ])
                refine wpAnyH_take (i := 1) (oi := ({ dst := some 49, op := Op.call { callee := Callee.builtin Builtin.len, args := #[Operand.tmp 48], argTypes := #[51] }, type := 3, pos := "ref.go:261", after := #[{ on := 0, ground := Ground.data }], guard := none })) (v := ?_) rfl (by kernel_rfl) (by kernel_rfl) (by kernel_rfl) (fun _ _ _ h => h) (Or.inl ⟨by rfl, ?_⟩) (by assumption) ?_
                rotate_left
                · (intro w hSw; (try dsimp only at hSw); go_simp; (try with_reducible rfl))
                (try simp only [Act.put, List.setIfInBounds_toArray, List.set_cons_zero, List.set_cons_succ])
                refine wpAnyH_take (i := 2) (oi := ({ dst := some 50, op := Op.binOp BinOp.neq 3 (Operand.tmp 49) (Operand.const (Value.int IntKind.i64 4)) 3, type := 4, pos := "ref.go:261", after := #[{ on := 1, ground := Ground.data }], guard := none })) (v := ?_) rfl (by kernel_rfl) (by kernel_rfl) (by kernel_rfl) (fun _ _ _ h => h) (Or.inl ⟨by rfl, ?_⟩) (by assumption) ?_
                rotate_left
                · (intro w hSw; (try dsimp only at hSw); go_simp; (try with_reducible rfl))
                (try simp only [Act.put, List.setIfInBounds_toArray, List.set_cons_zero, List.set_cons_succ])
                refine wpAnyH_take (i := 3) (oi := ({ dst := some 51, op := Op.move (Operand.tmp 50), type := 4, pos := "ref.go:261", after := #[{ on := 2, ground := Ground.data }], guard := none })) (v := ?_) rfl (by kernel_rfl) (by kernel_rfl) (by kernel_rfl) (fun _ _ _ h => h) (Or.inl ⟨by rfl, ?_⟩) (by assumption) ?_
                rotate_left
                · (intro w hSw; (try dsimp only at hSw); go_simp; (try with_reducible rfl))
                (try simp only [Act.put, List.setIfInBounds_toArray, List.set_cons_zero, List.set_cons_succ])
                refine wpAnyH_take (i := 4) (oi := ({ dst := some 52, op := Op.move (Operand.tmp 8), type := 27, pos := "ref.go:261", after := #[{ on := 3, ground := Ground.guard }], guard := some (3, false) })) (v := ?_) rfl (by kernel_rfl) (by kernel_rfl) (by kernel_rfl) (fun _ _ _ h => h) (Or.inl ⟨by rfl, ?_⟩) (by assumption) ?_
                rotate_left
                · (intro w hSw; (try dsimp only at hSw); go_simp; (try with_reducible rfl))
                (try simp only [Act.put, List.setIfInBounds_toArray, List.set_cons_zero, List.set_cons_succ])
                refine wpAnyH_take (i := 5) (oi := ({ dst := some 53, op := Op.move (Operand.tmp 7), type := 51, pos := "ref.go:261", after := #[{ on := 3, ground := Ground.guard }], guard := some (3, false) })) (v := ?_) rfl (by kernel_rfl) (by kernel_rfl) (by kernel_rfl) (fun _ _ _ h => h) (Or.inl ⟨by rfl, ?_⟩) (by assumption) ?_
                rotate_left
                · (intro w hSw; (try dsimp only at hSw); go_simp; (try with_reducible rfl))
                (try simp only [Act.put, List.setIfInBounds_toArray, List.set_cons_zero, List.set_cons_succ])
                refine wpAnyH_take (i := 6) (oi := ({ dst := some 54, op := Op.indexAddr 51 (Operand.tmp 53) (Operand.const (Value.int IntKind.i64 0)), type := 0, pos := "ref.go:261", after := #[{ on := 5, ground := Ground.data }, { on := 3, ground := Ground.guard }], guard := some (3, false) })) (v := ?_) rfl (by kernel_rfl) (by kernel_rfl) (by kernel_rfl) (fun _ _ _ h => h) (Or.inl ⟨by rfl, ?_⟩) (by assumption) ?_
                rotate_left
                · (intro w hSw; (try dsimp only at hSw); go_simp; (try with_reducible rfl))
                (try simp only [Act.put, List.setIfInBounds_toArray, List.set_cons_zero, List.set_cons_succ])
                refine wpAnyH_take (i := 7) (oi := ({ dst := some 55, op := Op.load 3 (Operand.tmp 54), type := 3, pos := "ref.go:261", after := #[{ on := 6, ground := Ground.data }, { on := 3, ground := Ground.guard }], guard := some (3, false) })) (v := ?_) rfl (by kernel_rfl) (by kernel_rfl) (by kernel_rfl) (fun _ _ _ h => h) (Or.inl ⟨by rfl, ?_⟩) (by assumption) ?_
                rotate_left
                · (intro w hSw; (try dsimp only at hSw); go_simp; (try with_reducible rfl))
                (try simp only [Act.put, List.setIfInBounds_toArray, List.set_cons_zero, List.set_cons_succ])
                refine wpAnyH_take (i := 8) (oi := ({ dst := some 56, op := Op.move (Operand.tmp 7), type := 51, pos := "ref.go:261", after := #[{ on := 3, ground := Ground.guard }], guard := some (3, false) })) (v := ?_) rfl (by kernel_rfl) (by kernel_rfl) (by kernel_rfl) (fun _ _ _ h => h) (Or.inl ⟨by rfl, ?_⟩) (by assumption) ?_
                rotate_left
                · (intro w hSw; (try dsimp only at hSw); go_simp; (try with_reducible rfl))
                (try simp only [Act.put, List.setIfInBounds_toArray, List.set_cons_zero, List.set_cons_succ])
                refine wpAnyH_take (i := 9) (oi := ({ dst := some 57, op := Op.indexAddr 51 (Operand.tmp 56) (Operand.const (Value.int IntKind.i64 1)), type := 0, pos := "ref.go:261", after := #[{ on := 8, ground := Ground.data }, { on := 3, ground := Ground.guard }], guard := some (3, false) })) (v := ?_) rfl (by kernel_rfl) (by kernel_rfl) (by kernel_rfl) (fun _ _ _ h => h) (Or.inl ⟨by rfl, ?_⟩) (by assumption) ?_
                rotate_left
                · (intro w hSw; (try dsimp only at hSw); go_simp; (try with_reducible rfl))
                (try simp only [Act.put, List.setIfInBounds_toArray, List.set_cons_zero, List.set_cons_succ])
                refine wpAnyH_take (i := 10) (oi := ({ dst := some 58, op := Op.load 3 (Operand.tmp 57), type := 3, pos := "ref.go:261", after := #[{ on := 9, ground := Ground.data }, { on := 3, ground := Ground.guard }], guard := some (3, false) })) (v := ?_) rfl (by kernel_rfl) (by kernel_rfl) (by kernel_rfl) (fun _ _ _ h => h) (Or.inl ⟨by rfl, ?_⟩) (by assumption) ?_
                rotate_left
                · (intro w hSw; (try dsimp only at hSw); go_simp; (try with_reducible rfl))
                (try simp only [Act.put, List.setIfInBounds_toArray, List.set_cons_zero, List.set_cons_succ])
                refine wpAnyH_ready (rs := [11]) (by kernel_rfl) (by simp) ?_
                refine AllReadyH.cons (o := ({ dst := some 59, op := Op.call { callee := Callee.value (Operand.func 21), args := #[Operand.tmp 52, Operand.tmp 55, Operand.tmp 58], argTypes := #[27, 3, 3] }, type := 24, pos := "ref.go:261", after := #[{ on := 4, ground := Ground.data }, { on := 7, ground := Ground.data }, { on := 10, ground := Ground.data }, { on := 3, ground := Ground.chain }, { on := 3, ground := Ground.guard }], guard := some (3, false) })) rfl (fun K hK => ?_) AllReadyH.nil
                go_simp
                go_at_call 21; refine (kT.out _ HR2.out).mono ?_; rintro e u3 ⟨rfl, hl3⟩; have HR3 := hidW (HR2.out.left hl3 HT.out); have HG3 := hidW (DLeft.ints HR2.out.lies hl3 HG2.out); obtain ⟨s0, s1, s2, s3⟩ := row4 HG3.out; clear hl3
                (try go_wp2_with fail)
                refine hK.out _ _ ⟨s0, s1, s2, s3⟩ (fun hHeld => ?_)
                clear hK K
                (try simp only [Act.put, List.setIfInBounds_toArray, List.set_cons_zero, List.set_cons_succ])
                refine wpAnyH_take (i := 12) (oi := ({ dst := some 60, op := Op.binOp BinOp.neq 24 (Operand.tmp 59) (Operand.const (Value.int IntKind.i64 0)) 24, type := 4, pos := "ref.go:261", after := #[{ on := 11, ground := Ground.data }, { on := 3, ground := Ground.guard }], guard := some (3, false) })) (v := ?_) rfl (by kernel_rfl) (by kernel_rfl) (by kernel_rfl) (fun _ _ _ h => h) (Or.inl ⟨by rfl, ?_⟩) (by assumption) ?_
                rotate_left
                · (intro w hSw; (try dsimp only at hSw); go_simp; (try with_reducible rfl))
                (try simp only [Act.put, List.setIfInBounds_toArray, List.set_cons_zero, List.set_cons_succ])
                refine wpAnyH_take (i := 13) (oi := ({ dst := some 61, op := Op.pick (Operand.tmp 51) (Operand.const (Value.bool true)) (Operand.tmp 60), type := 4, pos := "ref.go:261", after := #[{ on := 3, ground := Ground.data }, { on := 12, ground := Ground.data }], guard := none })) (v := ?_) rfl (by kernel_rfl) (by kernel_rfl) (by kernel_rfl) (fun _ _ _ h => h) (Or.inl ⟨by rfl, ?_⟩) (by assumption) ?_
                rotate_left
                · (intro w hSw; (try dsimp only at hSw); go_simp; (try with_reducible rfl))
                (try simp only [Act.put, List.setIfInBounds_toArray, List.set_cons_zero, List.set_cons_succ])
                refine wpAnyH_take (i := 14) (oi := ({ dst := some 62, op := Op.move (Operand.tmp 61), type := 4, pos := "ref.go:261", after := #[{ on := 13, ground := Ground.data }, { on := 11, ground := Ground.chain }], guard := none })) (v := ?_) rfl (by kernel_rfl) (by kernel_rfl) (by kernel_rfl) (fun _ _ _ h => h) (Or.inl ⟨by rfl, ?_⟩) (by assumption) ?_
                rotate_left
                · (intro w hSw; (try dsimp only at hSw); go_simp; (try with_reducible rfl))
                (try simp only [Act.put, List.setIfInBounds_toArray, List.set_cons_zero, List.set_cons_succ])
                refine wpAnyH_take (i := 15) (oi := ({ dst := some 63, op := Op.move (Operand.tmp 8), type := 27, pos := "ref.go:261", after := #[{ on := 14, ground := Ground.guard }], guard := some (14, false) })) (v := ?_) rfl (by kernel_rfl) (by kernel_rfl) (by kernel_rfl) (fun _ _ _ h => h) (Or.inl ⟨by rfl, ?_⟩) (by assumption) ?_
                rotate_left
                · (intro w hSw; (try dsimp only at hSw); go_simp; (try with_reducible rfl))
                (try simp only [Act.put, List.setIfInBounds_toArray, List.set_cons_zero, List.set_cons_succ])
                refine wpAnyH_take (i := 16) (oi := ({ dst := some 64, op := Op.move (Operand.tmp 7), type := 51, pos := "ref.go:261", after := #[{ on := 14, ground := Ground.guard }], guard := some (14, false) })) (v := ?_) rfl (by kernel_rfl) (by kernel_rfl) (by kernel_rfl) (fun _ _ _ h => h) (Or.inl ⟨by rfl, ?_⟩) (by assumption) ?_
                rotate_left
                · (intro w hSw; (try dsimp only at hSw); go_simp; (try with_reducible rfl))
                (try simp only [Act.put, List.setIfInBounds_toArray, List.set_cons_zero, List.set_cons_succ])
                refine wpAnyH_take (i := 17) (oi := ({ dst := some 65, op := Op.indexAddr 51 (Operand.tmp 64) (Operand.const (Value.int IntKind.i64 0)), type := 0, pos := "ref.go:261", after := #[{ on := 16, ground := Ground.data }, { on := 14, ground := Ground.guard }], guard := some (14, false) })) (v := ?_) rfl (by kernel_rfl) (by kernel_rfl) (by kernel_rfl) (fun _ _ _ h => h) (Or.inl ⟨by rfl, ?_⟩) (by assumption) ?_
                rotate_left
                · (intro w hSw; (try dsimp only at hSw); go_simp; (try with_reducible rfl))
                (try simp only [Act.put, List.setIfInBounds_toArray, List.set_cons_zero, List.set_cons_succ])
                refine wpAnyH_take (i := 18) (oi := ({ dst := some 66, op := Op.load 3 (Operand.tmp 65), type := 3, pos := "ref.go:261", after := #[{ on := 17, ground := Ground.data }, { on := 14, ground := Ground.guard }], guard := some (14, false) })) (v := ?_) rfl (by kernel_rfl) (by kernel_rfl) (by kernel_rfl) (fun _ _ _ h => h) (Or.inl ⟨by rfl, ?_⟩) (by assumption) ?_
                rotate_left
                · (intro w hSw; (try dsimp only at hSw); go_simp; (try with_reducible rfl))
                (try simp only [Act.put, List.setIfInBounds_toArray, List.set_cons_zero, List.set_cons_succ])
                refine wpAnyH_take (i := 19) (oi := ({ dst := some 67, op := Op.move (Operand.tmp 7), type := 51, pos := "ref.go:261", after := #[{ on := 14, ground := Ground.guard }], guard := some (14, false) })) (v := ?_) rfl (by kernel_rfl) (by kernel_rfl) (by kernel_rfl) (fun _ _ _ h => h) (Or.inl ⟨by rfl, ?_⟩) (by assumption) ?_
                rotate_left
                · (intro w hSw; (try dsimp only at hSw); go_simp; (try with_reducible rfl))
                (try simp only [Act.put, List.setIfInBounds_toArray, List.set_cons_zero, List.set_cons_succ])
                refine wpAnyH_take (i := 20) (oi := ({ dst := some 68, op := Op.indexAddr 51 (Operand.tmp 67) (Operand.const (Value.int IntKind.i64 2)), type := 0, pos := "ref.go:261", after := #[{ on := 19, ground := Ground.data }, { on := 14, ground := Ground.guard }], guard := some (14, false) })) (v := ?_) rfl (by kernel_rfl) (by kernel_rfl) (by kernel_rfl) (fun _ _ _ h => h) (Or.inl ⟨by rfl, ?_⟩) (by assumption) ?_
                rotate_left
                · (intro w hSw; (try dsimp only at hSw); go_simp; (try with_reducible rfl))
                (try simp only [Act.put, List.setIfInBounds_toArray, List.set_cons_zero, List.set_cons_succ])
                refine wpAnyH_take (i := 21) (oi := ({ dst := some 69, op := Op.load 3 (Operand.tmp 68), type := 3, pos := "ref.go:261", after := #[{ on := 20, ground := Ground.data }, { on := 14, ground := Ground.guard }], guard := some (14, false) })) (v := ?_) rfl (by kernel_rfl) (by kernel_rfl) (by kernel_rfl) (fun _ _ _ h => h) (Or.inl ⟨by rfl, ?_⟩) (by assumption) ?_
                rotate_left
                · (intro w hSw; (try dsimp only at hSw); go_simp; (try with_reducible rfl))
                (try simp only [Act.put, List.setIfInBounds_toArray, List.set_cons_zero, List.set_cons_succ])
                refine wpAnyH_ready (rs := [22]) (by kernel_rfl) (by simp) ?_
                refine AllReadyH.cons (o := ({ dst := some 70, op := Op.call { callee := Callee.value (Operand.func 22), args := #[Operand.tmp 63, Operand.tmp 66, Operand.tmp 69], argTypes := #[27, 3, 3] }, type := 24, pos := "ref.go:261", after := #[{ on := 15, ground := Ground.data }, { on := 18, ground := Ground.data }, { on := 21, ground := Ground.data }, { on := 14, ground := Ground.chain }, { on := 14, ground := Ground.guard }], guard := some (14, false) })) rfl (fun K hK => ?_) AllReadyH.nil
                go_simp
                go_at_call 22; refine (kU.out _ HR3.out).mono ?_; rintro e u4 ⟨rfl, hl4⟩; have HR4 := hidW (HR3.out.left hl4 HU.out); have HG4 := hidW (DLeft.ints HR3.out.lies hl4 HG3.out); obtain ⟨t0, t1, t2, t3⟩ := row4 HG4.out; clear hl4
                (try go_wp2_with fail)
                refine hK.out _ _ ⟨t0, t1, t2, t3⟩ (fun hHeld => ?_)
                clear hK K
                (try simp only [Act.put, List.setIfInBounds_toArray, List.set_cons_zero, List.set_cons_succ])
                refine wpAnyH_take (i := 23) (oi := ({ dst := some 71, op := Op.binOp BinOp.neq 24 (Operand.tmp 70) (Operand.const (Value.int IntKind.i64 0)) 24, type := 4, pos := "ref.go:261", after := #[{ on := 22, ground := Ground.data }, { on := 14, ground := Ground.guard }], guard := some (14, false) })) (v := ?_) rfl (by kernel_rfl) (by kernel_rfl) (by kernel_rfl) (fun _ _ _ h => h) (Or.inl ⟨by rfl, ?_⟩) (by assumption) ?_
                rotate_left
                · (intro w hSw; (try dsimp only at hSw); go_simp; (try with_reducible rfl))
                (try simp only [Act.put, List.setIfInBounds_toArray, List.set_cons_zero, List.set_cons_succ])
                refine wpAnyH_take (i := 24) (oi := ({ dst := some 72, op := Op.pick (Operand.tmp 62) (Operand.const (Value.bool true)) (Operand.tmp 71), type := 4, pos := "ref.go:261", after := #[{ on := 14, ground := Ground.data }, { on := 23, ground := Ground.data }], guard := none })) (v := ?_) rfl (by kernel_rfl) (by kernel_rfl) (by kernel_rfl) (fun _ _ _ h => h) (Or.inl ⟨by rfl, ?_⟩) (by assumption) ?_
                rotate_left
                · (intro w hSw; (try dsimp only at hSw); go_simp; (try with_reducible rfl))
                (try simp only [Act.put, List.setIfInBounds_toArray, List.set_cons_zero, List.set_cons_succ])
                refine wpAnyH_take (i := 25) (oi := ({ dst := some 73, op := Op.move (Operand.tmp 72), type := 4, pos := "ref.go:261", after := #[{ on := 24, ground := Ground.data }, { on := 22, ground := Ground.chain }], guard := none })) (v := ?_) rfl (by kernel_rfl) (by kernel_rfl) (by kernel_rfl) (fun _ _ _ h => h) (Or.inl ⟨by rfl, ?_⟩) (by assumption) ?_
                rotate_left
                · (intro w hSw; (try dsimp only at hSw); go_simp; (try with_reducible rfl))
                (try simp only [Act.put, List.setIfInBounds_toArray, List.set_cons_zero, List.set_cons_succ])
                refine wpAnyH_take (i := 26) (oi := ({ dst := some 74, op := Op.move (Operand.tmp 7), type := 51, pos := "ref.go:261", after := #[{ on := 25, ground := Ground.guard }], guard := some (25, false) })) (v := ?_) rfl (by kernel_rfl) (by kernel_rfl) (by kernel_rfl) (fun _ _ _ h => h) (Or.inl ⟨by rfl, ?_⟩) (by assumption) ?_
                rotate_left
                · (intro w hSw; (try dsimp only at hSw); go_simp; (try with_reducible rfl))
                (try simp only [Act.put, List.setIfInBounds_toArray, List.set_cons_zero, List.set_cons_succ])
                refine wpAnyH_take (i := 27) (oi := ({ dst := some 75, op := Op.indexAddr 51 (Operand.tmp 74) (Operand.const (Value.int IntKind.i64 3)), type := 0, pos := "ref.go:261", after := #[{ on := 26, ground := Ground.data }, { on := 25, ground := Ground.guard }], guard := some (25, false) })) (v := ?_) rfl (by kernel_rfl) (by kernel_rfl) (by kernel_rfl) (fun _ _ _ h => h) (Or.inl ⟨by rfl, ?_⟩) (by assumption) ?_
                rotate_left
                · (intro w hSw; (try dsimp only at hSw); go_simp; (try with_reducible rfl))
                (try simp only [Act.put, List.setIfInBounds_toArray, List.set_cons_zero, List.set_cons_succ])
                refine wpAnyH_take (i := 28) (oi := ({ dst := some 76, op := Op.load 3 (Operand.tmp 75), type := 3, pos := "ref.go:261", after := #[{ on := 27, ground := Ground.data }, { on := 25, ground := Ground.guard }], guard := some (25, false) })) (v := ?_) rfl (by kernel_rfl) (by kernel_rfl) (by kernel_rfl) (fun _ _ _ h => h) (Or.inl ⟨by rfl, ?_⟩) (by assumption) ?_
                rotate_left
                · (intro w hSw; (try dsimp only at hSw); go_simp; (try with_reducible rfl))
                (try simp only [Act.put, List.setIfInBounds_toArray, List.set_cons_zero, List.set_cons_succ])
                refine wpAnyH_take (i := 29) (oi := ({ dst := some 77, op := Op.move (Operand.tmp 7), type := 51, pos := "ref.go:261", after := #[{ on := 25, ground := Ground.guard }], guard := some (25, false) })) (v := ?_) rfl (by kernel_rfl) (by kernel_rfl) (by kernel_rfl) (fun _ _ _ h => h) (Or.inl ⟨by rfl, ?_⟩) (by assumption) ?_
                rotate_left
                · (intro w hSw; (try dsimp only at hSw); go_simp; (try with_reducible rfl))
                (try simp only [Act.put, List.setIfInBounds_toArray, List.set_cons_zero, List.set_cons_succ])
                refine wpAnyH_take (i := 30) (oi := ({ dst := some 78, op := Op.indexAddr 51 (Operand.tmp 77) (Operand.const (Value.int IntKind.i64 2)), type := 0, pos := "ref.go:261", after := #[{ on := 29, ground := Ground.data }, { on := 25, ground := Ground.guard }], guard := some (25, false) })) (v := ?_) rfl (by kernel_rfl) (by kernel_rfl) (by kernel_rfl) (fun _ _ _ h => h) (Or.inl ⟨by rfl, ?_⟩) (by assumption) ?_
                rotate_left
                · (intro w hSw; (try dsimp only at hSw); go_simp; (try with_reducible rfl))
                (try simp only [Act.put, List.setIfInBounds_toArray, List.set_cons_zero, List.set_cons_succ])
                refine wpAnyH_take (i := 31) (oi := ({ dst := some 79, op := Op.load 3 (Operand.tmp 78), type := 3, pos := "ref.go:261", after := #[{ on := 30, ground := Ground.data }, { on := 25, ground := Ground.guard }], guard := some (25, false) })) (v := ?_) rfl (by kernel_rfl) (by kernel_rfl) (by kernel_rfl) (fun _ _ _ h => h) (Or.inl ⟨by rfl, ?_⟩) (by assumption) ?_
                rotate_left
                · (intro w hSw; (try dsimp only at hSw); go_simp; (try with_reducible rfl))
                (try simp only [Act.put, List.setIfInBounds_toArray, List.set_cons_zero, List.set_cons_succ])
                refine wpAnyH_take (i := 32) (oi := ({ dst := some 80, op := Op.binOp BinOp.gtr 3 (Operand.tmp 76) (Operand.tmp 79) 3, type := 4, pos := "ref.go:261", after := #[{ on := 28, ground := Ground.data }, { on := 31, ground := Ground.data }, { on := 25, ground := Ground.guard }], guard := some (25, false) })) (v := ?_) rfl (by kernel_rfl) (by kernel_rfl) (by kernel_rfl) (fun _ _ _ h => h) (Or.inl ⟨by rfl, ?_⟩) (by assumption) ?_
                rotate_left
                · (intro w hSw; (try dsimp only at hSw); go_simp; (try with_reducible rfl))
                (try simp only [Act.put, List.setIfInBounds_toArray, List.set_cons_zero, List.set_cons_succ])
                refine wpAnyH_take (i := 33) (oi := ({ dst := some 81, op := Op.pick (Operand.tmp 73) (Operand.const (Value.bool true)) (Operand.tmp 80), type := 4, pos := "ref.go:261", after := #[{ on := 25, ground := Ground.data }, { on := 32, ground := Ground.data }], guard := none })) (v := ?_) rfl (by kernel_rfl) (by kernel_rfl) (by kernel_rfl) (fun _ _ _ h => h) (Or.inl ⟨by rfl, ?_⟩) (by assumption) ?_
                rotate_left
                · (intro w hSw; (try dsimp only at hSw); go_simp; (try with_reducible rfl))
                (try simp only [Act.put, List.setIfInBounds_toArray, List.set_cons_zero, List.set_cons_succ])
                refine wpAnyH_take (i := 34) (oi := ({ dst := some 82, op := Op.move (Operand.tmp 81), type := 4, pos := "ref.go:261", after := #[{ on := 33, ground := Ground.data }, { on := 25, ground := Ground.chain }], guard := none })) (v := ?_) rfl (by kernel_rfl) (by kernel_rfl) (by kernel_rfl) (fun _ _ _ h => h) (Or.inl ⟨by rfl, ?_⟩) (by assumption) ?_
                rotate_left
                · (intro w hSw; (try dsimp only at hSw); go_simp; (try with_reducible rfl))
                (try simp only [Act.put, List.setIfInBounds_toArray, List.set_cons_zero, List.set_cons_succ])
                refine wpAnyH_take (i := 35) (oi := ({ dst := some 83, op := Op.move (Operand.tmp 8), type := 27, pos := "ref.go:261", after := #[{ on := 34, ground := Ground.guard }], guard := some (34, false) })) (v := ?_) rfl (by kernel_rfl) (by kernel_rfl) (by kernel_rfl) (fun _ _ _ h => h) (Or.inl ⟨by rfl, ?_⟩) (by assumption) ?_
                rotate_left
                · (intro w hSw; (try dsimp only at hSw); go_simp; (try with_reducible rfl))
                (try simp only [Act.put, List.setIfInBounds_toArray, List.set_cons_zero, List.set_cons_succ])
                refine wpAnyH_take (i := 36) (oi := ({ dst := some 84, op := Op.move (Operand.tmp 7), type := 51, pos := "ref.go:261", after := #[{ on := 34, ground := Ground.guard }], guard := some (34, false) })) (v := ?_) rfl (by kernel_rfl) (by kernel_rfl) (by kernel_rfl) (fun _ _ _ h => h) (Or.inl ⟨by rfl, ?_⟩) (by assumption) ?_
                rotate_left
                · (intro w hSw; (try dsimp only at hSw); go_simp; (try with_reducible rfl))
                (try simp only [Act.put, List.setIfInBounds_toArray, List.set_cons_zero, List.set_cons_succ])
                refine wpAnyH_take (i := 37) (oi := ({ dst := some 85, op := Op.indexAddr 51 (Operand.tmp 84) (Operand.const (Value.int IntKind.i64 0)), type := 0, pos := "ref.go:261", after := #[{ on := 36, ground := Ground.data }, { on := 34, ground := Ground.guard }], guard := some (34, false) })) (v := ?_) rfl (by kernel_rfl) (by kernel_rfl) (by kernel_rfl) (fun _ _ _ h => h) (Or.inl ⟨by rfl, ?_⟩) (by assumption) ?_
                rotate_left
                · (intro w hSw; (try dsimp only at hSw); go_simp; (try with_reducible rfl))
                (try simp only [Act.put, List.setIfInBounds_toArray, List.set_cons_zero, List.set_cons_succ])
                refine wpAnyH_take (i := 38) (oi := ({ dst := some 86, op := Op.load 3 (Operand.tmp 85), type := 3, pos := "ref.go:261", after := #[{ on := 37, ground := Ground.data }, { on := 34, ground := Ground.guard }], guard := some (34, false) })) (v := ?_) rfl (by kernel_rfl) (by kernel_rfl) (by kernel_rfl) (fun _ _ _ h => h) (Or.inl ⟨by rfl, ?_⟩) (by assumption) ?_
                rotate_left
                · (intro w hSw; (try dsimp only at hSw); go_simp; (try with_reducible rfl))
                (try simp only [Act.put, List.setIfInBounds_toArray, List.set_cons_zero, List.set_cons_succ])
                refine wpAnyH_take (i := 39) (oi := ({ dst := some 87, op := Op.move (Operand.tmp 7), type := 51, pos := "ref.go:261", after := #[{ on := 34, ground := Ground.guard }], guard := some (34, false) })) (v := ?_) rfl (by kernel_rfl) (by kernel_rfl) (by kernel_rfl) (fun _ _ _ h => h) (Or.inl ⟨by rfl, ?_⟩) (by assumption) ?_
                rotate_left
                · (intro w hSw; (try dsimp only at hSw); go_simp; (try with_reducible rfl))
                (try simp only [Act.put, List.setIfInBounds_toArray, List.set_cons_zero, List.set_cons_succ])
                refine wpAnyH_take (i := 40) (oi := ({ dst := some 88, op := Op.indexAddr 51 (Operand.tmp 87) (Operand.const (Value.int IntKind.i64 2)), type := 0, pos := "ref.go:261", after := #[{ on := 39, ground := Ground.data }, { on := 34, ground := Ground.guard }], guard := some (34, false) })) (v := ?_) rfl (by kernel_rfl) (by kernel_rfl) (by kernel_rfl) (fun _ _ _ h => h) (Or.inl ⟨by rfl, ?_⟩) (by assumption) ?_
                rotate_left
                · (intro w hSw; (try dsimp only at hSw); go_simp; (try with_reducible rfl))
                (try simp only [Act.put, List.setIfInBounds_toArray, List.set_cons_zero, List.set_cons_succ])
                refine wpAnyH_take (i := 41) (oi := ({ dst := some 89, op := Op.load 3 (Operand.tmp 88), type := 3, pos := "ref.go:261", after := #[{ on := 40, ground := Ground.data }, { on := 34, ground := Ground.guard }], guard := some (34, false) })) (v := ?_) rfl (by kernel_rfl) (by kernel_rfl) (by kernel_rfl) (fun _ _ _ h => h) (Or.inl ⟨by rfl, ?_⟩) (by assumption) ?_
                rotate_left
                · (intro w hSw; (try dsimp only at hSw); go_simp; (try with_reducible rfl))
                (try simp only [Act.put, List.setIfInBounds_toArray, List.set_cons_zero, List.set_cons_succ])
                refine wpAnyH_take (i := 42) (oi := ({ dst := some 90, op := Op.move (Operand.tmp 7), type := 51, pos := "ref.go:261", after := #[{ on := 34, ground := Ground.guard }], guard := some (34, false) })) (v := ?_) rfl (by kernel_rfl) (by kernel_rfl) (by kernel_rfl) (fun _ _ _ h => h) (Or.inl ⟨by rfl, ?_⟩) (by assumption) ?_
                rotate_left
                · (intro w hSw; (try dsimp only at hSw); go_simp; (try with_reducible rfl))
                (try simp only [Act.put, List.setIfInBounds_toArray, List.set_cons_zero, List.set_cons_succ])
                refine wpAnyH_take (i := 43) (oi := ({ dst := some 91, op := Op.indexAddr 51 (Operand.tmp 90) (Operand.const (Value.int IntKind.i64 3)), type := 0, pos := "ref.go:261", after := #[{ on := 42, ground := Ground.data }, { on := 34, ground := Ground.guard }], guard := some (34, false) })) (v := ?_) rfl (by kernel_rfl) (by kernel_rfl) (by kernel_rfl) (fun _ _ _ h => h) (Or.inl ⟨by rfl, ?_⟩) (by assumption) ?_
                rotate_left
                · (intro w hSw; (try dsimp only at hSw); go_simp; (try with_reducible rfl))
                (try simp only [Act.put, List.setIfInBounds_toArray, List.set_cons_zero, List.set_cons_succ])
                refine wpAnyH_take (i := 44) (oi := ({ dst := some 92, op := Op.load 3 (Operand.tmp 91), type := 3, pos := "ref.go:261", after := #[{ on := 43, ground := Ground.data }, { on := 34, ground := Ground.guard }], guard := some (34, false) })) (v := ?_) rfl (by kernel_rfl) (by kernel_rfl) (by kernel_rfl) (fun _ _ _ h => h) (Or.inl ⟨by rfl, ?_⟩) (by assumption) ?_
                rotate_left
                · (intro w hSw; (try dsimp only at hSw); go_simp; (try with_reducible rfl))
                (try simp only [Act.put, List.setIfInBounds_toArray, List.set_cons_zero, List.set_cons_succ])
                refine wpAnyH_take (i := 45) (oi := ({ dst := some 93, op := Op.binOp BinOp.sub 3 (Operand.tmp 89) (Operand.tmp 92) 3, type := 3, pos := "ref.go:261", after := #[{ on := 41, ground := Ground.data }, { on := 44, ground := Ground.data }, { on := 34, ground := Ground.guard }], guard := some (34, false) })) (v := ?_) rfl (by kernel_rfl) (by kernel_rfl) (by kernel_rfl) (fun _ _ _ h => h) (Or.inl ⟨by rfl, ?_⟩) (by assumption) ?_
                rotate_left
                · (intro w hSw; (try dsimp only at hSw); go_simp; (try with_reducible rfl))
                (try simp only [Act.put, List.setIfInBounds_toArray, List.set_cons_zero, List.set_cons_succ])
                refine wpAnyH_ready (rs := [46]) (by kernel_rfl) (by simp) ?_
                refine AllReadyH.cons (o := ({ dst := some 94, op := Op.call { callee := Callee.value (Operand.func 23), args := #[Operand.tmp 83, Operand.tmp 86, Operand.tmp 93], argTypes := #[27, 3, 3] }, type := 24, pos := "ref.go:261", after := #[{ on := 35, ground := Ground.data }, { on := 38, ground := Ground.data }, { on := 45, ground := Ground.data }, { on := 34, ground := Ground.chain }, { on := 34, ground := Ground.guard }], guard := some (34, false) })) rfl (fun K hK => ?_) AllReadyH.nil
                go_simp
                go_at_call 23; refine (kK.out _ HR4.out).mono ?_; rintro e u5 ⟨rfl, hl5⟩; have HR5 := hidW (HR4.out.left hl5 HK.out); have HG5 := hidW (DLeft.ints HR4.out.lies hl5 HG4.out); obtain ⟨y0, y1, y2, y3⟩ := row4 HG5.out; clear hl5
                (try go_wp2_with fail)
                refine hK.out _ _ ⟨y0, y1, y2, y3⟩ (fun hHeld => ?_)
                clear hK K
                (try simp only [Act.put, List.setIfInBounds_toArray, List.set_cons_zero, List.set_cons_succ])
                refine wpAnyH_take (i := 47) (oi := ({ dst := some 95, op := Op.binOp BinOp.neq 24 (Operand.tmp 94) (Operand.const (Value.int IntKind.i64 0)) 24, type := 4, pos := "ref.go:261", after := #[{ on := 46, ground := Ground.data }, { on := 34, ground := Ground.guard }], guard := some (34, false) })) (v := ?_) rfl (by kernel_rfl) (by kernel_rfl) (by kernel_rfl) (fun _ _ _ h => h) (Or.inl ⟨by rfl, ?_⟩) (by assumption) ?_
                rotate_left
                · (intro w hSw; (try dsimp only at hSw); go_simp; (try with_reducible rfl))
                (try simp only [Act.put, List.setIfInBounds_toArray, List.set_cons_zero, List.set_cons_succ])
                refine wpAnyH_take (i := 48) (oi := ({ dst := some 96, op := Op.pick (Operand.tmp 82) (Operand.const (Value.bool true)) (Operand.tmp 95), type := 4, pos := "ref.go:261", after := #[{ on := 34, ground := Ground.data }, { on := 47, ground := Ground.data }], guard := none })) (v := ?_) rfl (by kernel_rfl) (by kernel_rfl) (by kernel_rfl) (fun _ _ _ h => h) (Or.inl ⟨by rfl, ?_⟩) (by assumption) ?_
                rotate_left
                · (intro w hSw; (try dsimp only at hSw); go_simp; (try with_reducible rfl))
                (try simp only [Act.put, List.setIfInBounds_toArray, List.set_cons_zero, List.set_cons_succ])
                refine wpAnyH_done (by kernel_rfl) ?_ _
                go_wp2
                go_ret2
                exact dpar_none HP.out HR5.out.bel
          · have fU : (U1 != 0) = true := by simpa using eU
            have HP := hidW (HNone.out (by rw [HDr.out, if_neg (by simp [eT]), if_pos eU]))
            clear eT eU
            go_wp2_with (first
          | (go_at_call 38; refine (kC2.out _).mono ?_; rintro e u1 ⟨rfl, hb1⟩; have HR1 := hidW (HR.out.later hb1); clear hb1)
          | (go_at_call 39; refine (kN2.out _).mono ?_; rintro e u2 ⟨v2, rfl, ho2, hb2⟩; obtain ⟨g2, cc2, rfl, _, _, _, hr2⟩ := Row.of_owns ho2 (by simp); have HR2 := hidW ((HR1.out.later hb2).later (Below.refl _ _).drew); have HG2 := hidW hr2.drew; obtain ⟨r0, r1, r2, r3⟩ := row4 hr2.drew; clear hb2 ho2 hr2; simp only [List.length_cons, List.length_nil, Nat.reduceAdd]))
            refine wp_region_held_drew (S := (fun w' => w'.cell? ⟨g2, 0, none⟩ = some (.int .i64 a) ∧ w'.cell? ⟨g2, 1, none⟩ = some (.int .i64 b) ∧ w'.cell? ⟨g2, 2, none⟩ = some (.int .i64 c) ∧ w'.cell? ⟨g2, 3, none⟩ = some (.int .i64 d))) (by kernel_rfl) ⟨r0, r1, r2, r3⟩ (fun hHeld => ?_)
            refine wpAnyH_take (i := 0) (oi := ({ dst := some 48, op := Op.move (Operand.tmp 7), type := 51, pos := "ref.go:261", after := #[], guard := none })) (v := ?_) rfl (by kernel_rfl) (by kernel_rfl) (by kernel_rfl) (fun _ _ _ h => h) (Or.inl ⟨by rfl, ?_⟩) (by assumption) ?_
            rotate_left
            · (intro w hSw; (try dsimp only at hSw); go_simp; (try with_reducible rfl))
            (try simp only [Act.put, List.setIfInBounds_toArray, List.set_cons_zero, List.set_cons_succ])
            refine wpAnyH_take (i := 1) (oi := ({ dst := some 49, op := Op.call { callee := Callee.builtin Builtin.len, args := #[Operand.tmp 48], argTypes := #[51] }, type := 3, pos := "ref.go:261", after := #[{ on := 0, ground := Ground.data }], guard := none })) (v := ?_) rfl (by kernel_rfl) (by kernel_rfl) (by kernel_rfl) (fun _ _ _ h => h) (Or.inl ⟨by rfl, ?_⟩) (by assumption) ?_
            rotate_left
            · (intro w hSw; (try dsimp only at hSw); go_simp; (try with_reducible rfl))
            (try simp only [Act.put, List.setIfInBounds_toArray, List.set_cons_zero, List.set_cons_succ])
            refine wpAnyH_take (i := 2) (oi := ({ dst := some 50, op := Op.binOp BinOp.neq 3 (Operand.tmp 49) (Operand.const (Value.int IntKind.i64 4)) 3, type := 4, pos := "ref.go:261", after := #[{ on := 1, ground := Ground.data }], guard := none })) (v := ?_) rfl (by kernel_rfl) (by kernel_rfl) (by kernel_rfl) (fun _ _ _ h => h) (Or.inl ⟨by rfl, ?_⟩) (by assumption) ?_
            rotate_left
            · (intro w hSw; (try dsimp only at hSw); go_simp; (try with_reducible rfl))
            (try simp only [Act.put, List.setIfInBounds_toArray, List.set_cons_zero, List.set_cons_succ])
            refine wpAnyH_take (i := 3) (oi := ({ dst := some 51, op := Op.move (Operand.tmp 50), type := 4, pos := "ref.go:261", after := #[{ on := 2, ground := Ground.data }], guard := none })) (v := ?_) rfl (by kernel_rfl) (by kernel_rfl) (by kernel_rfl) (fun _ _ _ h => h) (Or.inl ⟨by rfl, ?_⟩) (by assumption) ?_
            rotate_left
            · (intro w hSw; (try dsimp only at hSw); go_simp; (try with_reducible rfl))
            (try simp only [Act.put, List.setIfInBounds_toArray, List.set_cons_zero, List.set_cons_succ])
            refine wpAnyH_take (i := 4) (oi := ({ dst := some 52, op := Op.move (Operand.tmp 8), type := 27, pos := "ref.go:261", after := #[{ on := 3, ground := Ground.guard }], guard := some (3, false) })) (v := ?_) rfl (by kernel_rfl) (by kernel_rfl) (by kernel_rfl) (fun _ _ _ h => h) (Or.inl ⟨by rfl, ?_⟩) (by assumption) ?_
            rotate_left
            · (intro w hSw; (try dsimp only at hSw); go_simp; (try with_reducible rfl))
            (try simp only [Act.put, List.setIfInBounds_toArray, List.set_cons_zero, List.set_cons_succ])
            refine wpAnyH_take (i := 5) (oi := ({ dst := some 53, op := Op.move (Operand.tmp 7), type := 51, pos := "ref.go:261", after := #[{ on := 3, ground := Ground.guard }], guard := some (3, false) })) (v := ?_) rfl (by kernel_rfl) (by kernel_rfl) (by kernel_rfl) (fun _ _ _ h => h) (Or.inl ⟨by rfl, ?_⟩) (by assumption) ?_
            rotate_left
            · (intro w hSw; (try dsimp only at hSw); go_simp; (try with_reducible rfl))
            (try simp only [Act.put, List.setIfInBounds_toArray, List.set_cons_zero, List.set_cons_succ])
            refine wpAnyH_take (i := 6) (oi := ({ dst := some 54, op := Op.indexAddr 51 (Operand.tmp 53) (Operand.const (Value.int IntKind.i64 0)), type := 0, pos := "ref.go:261", after := #[{ on := 5, ground := Ground.data }, { on := 3, ground := Ground.guard }], guard := some (3, false) })) (v := ?_) rfl (by kernel_rfl) (by kernel_rfl) (by kernel_rfl) (fun _ _ _ h => h) (Or.inl ⟨by rfl, ?_⟩) (by assumption) ?_
            rotate_left
            · (intro w hSw; (try dsimp only at hSw); go_simp; (try with_reducible rfl))
            (try simp only [Act.put, List.setIfInBounds_toArray, List.set_cons_zero, List.set_cons_succ])
            refine wpAnyH_take (i := 7) (oi := ({ dst := some 55, op := Op.load 3 (Operand.tmp 54), type := 3, pos := "ref.go:261", after := #[{ on := 6, ground := Ground.data }, { on := 3, ground := Ground.guard }], guard := some (3, false) })) (v := ?_) rfl (by kernel_rfl) (by kernel_rfl) (by kernel_rfl) (fun _ _ _ h => h) (Or.inl ⟨by rfl, ?_⟩) (by assumption) ?_
            rotate_left
            · (intro w hSw; (try dsimp only at hSw); go_simp; (try with_reducible rfl))
            (try simp only [Act.put, List.setIfInBounds_toArray, List.set_cons_zero, List.set_cons_succ])
            refine wpAnyH_take (i := 8) (oi := ({ dst := some 56, op := Op.move (Operand.tmp 7), type := 51, pos := "ref.go:261", after := #[{ on := 3, ground := Ground.guard }], guard := some (3, false) })) (v := ?_) rfl (by kernel_rfl) (by kernel_rfl) (by kernel_rfl) (fun _ _ _ h => h) (Or.inl ⟨by rfl, ?_⟩) (by assumption) ?_
            rotate_left
            · (intro w hSw; (try dsimp only at hSw); go_simp; (try with_reducible rfl))
            (try simp only [Act.put, List.setIfInBounds_toArray, List.set_cons_zero, List.set_cons_succ])
            refine wpAnyH_take (i := 9) (oi := ({ dst := some 57, op := Op.indexAddr 51 (Operand.tmp 56) (Operand.const (Value.int IntKind.i64 1)), type := 0, pos := "ref.go:261", after := #[{ on := 8, ground := Ground.data }, { on := 3, ground := Ground.guard }], guard := some (3, false) })) (v := ?_) rfl (by kernel_rfl) (by kernel_rfl) (by kernel_rfl) (fun _ _ _ h => h) (Or.inl ⟨by rfl, ?_⟩) (by assumption) ?_
            rotate_left
            · (intro w hSw; (try dsimp only at hSw); go_simp; (try with_reducible rfl))
            (try simp only [Act.put, List.setIfInBounds_toArray, List.set_cons_zero, List.set_cons_succ])
            refine wpAnyH_take (i := 10) (oi := ({ dst := some 58, op := Op.load 3 (Operand.tmp 57), type := 3, pos := "ref.go:261", after := #[{ on := 9, ground := Ground.data }, { on := 3, ground := Ground.guard }], guard := some (3, false) })) (v := ?_) rfl (by kernel_rfl) (by kernel_rfl) (by kernel_rfl) (fun _ _ _ h => h) (Or.inl ⟨by rfl, ?_⟩) (by assumption) ?_
            rotate_left
            · (intro w hSw; (try dsimp only at hSw); go_simp; (try with_reducible rfl))
            (try simp only [Act.put, List.setIfInBounds_toArray, List.set_cons_zero, List.set_cons_succ])
            refine wpAnyH_ready (rs := [11]) (by kernel_rfl) (by simp) ?_
            refine AllReadyH.cons (o := ({ dst := some 59, op := Op.call { callee := Callee.value (Operand.func 21), args := #[Operand.tmp 52, Operand.tmp 55, Operand.tmp 58], argTypes := #[27, 3, 3] }, type := 24, pos := "ref.go:261", after := #[{ on := 4, ground := Ground.data }, { on := 7, ground := Ground.data }, { on := 10, ground := Ground.data }, { on := 3, ground := Ground.chain }, { on := 3, ground := Ground.guard }], guard := some (3, false) })) rfl (fun K hK => ?_) AllReadyH.nil
            go_simp
            go_at_call 21; refine (kT.out _ HR2.out).mono ?_; rintro e u3 ⟨rfl, hl3⟩; have HR3 := hidW (HR2.out.left hl3 HT.out); have HG3 := hidW (DLeft.ints HR2.out.lies hl3 HG2.out); obtain ⟨s0, s1, s2, s3⟩ := row4 HG3.out; clear hl3
            (try go_wp2_with fail)
            refine hK.out _ _ ⟨s0, s1, s2, s3⟩ (fun hHeld => ?_)
            clear hK K
            (try simp only [Act.put, List.setIfInBounds_toArray, List.set_cons_zero, List.set_cons_succ])
            refine wpAnyH_take (i := 12) (oi := ({ dst := some 60, op := Op.binOp BinOp.neq 24 (Operand.tmp 59) (Operand.const (Value.int IntKind.i64 0)) 24, type := 4, pos := "ref.go:261", after := #[{ on := 11, ground := Ground.data }, { on := 3, ground := Ground.guard }], guard := some (3, false) })) (v := ?_) rfl (by kernel_rfl) (by kernel_rfl) (by kernel_rfl) (fun _ _ _ h => h) (Or.inl ⟨by rfl, ?_⟩) (by assumption) ?_
            rotate_left
            · (intro w hSw; (try dsimp only at hSw); go_simp; (try with_reducible rfl))
            (try simp only [Act.put, List.setIfInBounds_toArray, List.set_cons_zero, List.set_cons_succ])
            refine wpAnyH_take (i := 13) (oi := ({ dst := some 61, op := Op.pick (Operand.tmp 51) (Operand.const (Value.bool true)) (Operand.tmp 60), type := 4, pos := "ref.go:261", after := #[{ on := 3, ground := Ground.data }, { on := 12, ground := Ground.data }], guard := none })) (v := ?_) rfl (by kernel_rfl) (by kernel_rfl) (by kernel_rfl) (fun _ _ _ h => h) (Or.inl ⟨by rfl, ?_⟩) (by assumption) ?_
            rotate_left
            · (intro w hSw; (try dsimp only at hSw); go_simp; (try with_reducible rfl))
            (try simp only [Act.put, List.setIfInBounds_toArray, List.set_cons_zero, List.set_cons_succ])
            refine wpAnyH_take (i := 14) (oi := ({ dst := some 62, op := Op.move (Operand.tmp 61), type := 4, pos := "ref.go:261", after := #[{ on := 13, ground := Ground.data }, { on := 11, ground := Ground.chain }], guard := none })) (v := ?_) rfl (by kernel_rfl) (by kernel_rfl) (by kernel_rfl) (fun _ _ _ h => h) (Or.inl ⟨by rfl, ?_⟩) (by assumption) ?_
            rotate_left
            · (intro w hSw; (try dsimp only at hSw); go_simp; (try with_reducible rfl))
            (try simp only [Act.put, List.setIfInBounds_toArray, List.set_cons_zero, List.set_cons_succ])
            refine wpAnyH_take (i := 15) (oi := ({ dst := some 63, op := Op.move (Operand.tmp 8), type := 27, pos := "ref.go:261", after := #[{ on := 14, ground := Ground.guard }], guard := some (14, false) })) (v := ?_) rfl (by kernel_rfl) (by kernel_rfl) (by kernel_rfl) (fun _ _ _ h => h) (Or.inl ⟨by rfl, ?_⟩) (by assumption) ?_
            rotate_left
            · (intro w hSw; (try dsimp only at hSw); go_simp; (try with_reducible rfl))
            (try simp only [Act.put, List.setIfInBounds_toArray, List.set_cons_zero, List.set_cons_succ])
            refine wpAnyH_take (i := 16) (oi := ({ dst := some 64, op := Op.move (Operand.tmp 7), type := 51, pos := "ref.go:261", after := #[{ on := 14, ground := Ground.guard }], guard := some (14, false) })) (v := ?_) rfl (by kernel_rfl) (by kernel_rfl) (by kernel_rfl) (fun _ _ _ h => h) (Or.inl ⟨by rfl, ?_⟩) (by assumption) ?_
            rotate_left
            · (intro w hSw; (try dsimp only at hSw); go_simp; (try with_reducible rfl))
            (try simp only [Act.put, List.setIfInBounds_toArray, List.set_cons_zero, List.set_cons_succ])
            refine wpAnyH_take (i := 17) (oi := ({ dst := some 65, op := Op.indexAddr 51 (Operand.tmp 64) (Operand.const (Value.int IntKind.i64 0)), type := 0, pos := "ref.go:261", after := #[{ on := 16, ground := Ground.data }, { on := 14, ground := Ground.guard }], guard := some (14, false) })) (v := ?_) rfl (by kernel_rfl) (by kernel_rfl) (by kernel_rfl) (fun _ _ _ h => h) (Or.inl ⟨by rfl, ?_⟩) (by assumption) ?_
            rotate_left
            · (intro w hSw; (try dsimp only at hSw); go_simp; (try with_reducible rfl))
            (try simp only [Act.put, List.setIfInBounds_toArray, List.set_cons_zero, List.set_cons_succ])
            refine wpAnyH_take (i := 18) (oi := ({ dst := some 66, op := Op.load 3 (Operand.tmp 65), type := 3, pos := "ref.go:261", after := #[{ on := 17, ground := Ground.data }, { on := 14, ground := Ground.guard }], guard := some (14, false) })) (v := ?_) rfl (by kernel_rfl) (by kernel_rfl) (by kernel_rfl) (fun _ _ _ h => h) (Or.inl ⟨by rfl, ?_⟩) (by assumption) ?_
            rotate_left
            · (intro w hSw; (try dsimp only at hSw); go_simp; (try with_reducible rfl))
            (try simp only [Act.put, List.setIfInBounds_toArray, List.set_cons_zero, List.set_cons_succ])
            refine wpAnyH_take (i := 19) (oi := ({ dst := some 67, op := Op.move (Operand.tmp 7), type := 51, pos := "ref.go:261", after := #[{ on := 14, ground := Ground.guard }], guard := some (14, false) })) (v := ?_) rfl (by kernel_rfl) (by kernel_rfl) (by kernel_rfl) (fun _ _ _ h => h) (Or.inl ⟨by rfl, ?_⟩) (by assumption) ?_
            rotate_left
            · (intro w hSw; (try dsimp only at hSw); go_simp; (try with_reducible rfl))
            (try simp only [Act.put, List.setIfInBounds_toArray, List.set_cons_zero, List.set_cons_succ])
            refine wpAnyH_take (i := 20) (oi := ({ dst := some 68, op := Op.indexAddr 51 (Operand.tmp 67) (Operand.const (Value.int IntKind.i64 2)), type := 0, pos := "ref.go:261", after := #[{ on := 19, ground := Ground.data }, { on := 14, ground := Ground.guard }], guard := some (14, false) })) (v := ?_) rfl (by kernel_rfl) (by kernel_rfl) (by kernel_rfl) (fun _ _ _ h => h) (Or.inl ⟨by rfl, ?_⟩) (by assumption) ?_
            rotate_left
            · (intro w hSw; (try dsimp only at hSw); go_simp; (try with_reducible rfl))
            (try simp only [Act.put, List.setIfInBounds_toArray, List.set_cons_zero, List.set_cons_succ])
            refine wpAnyH_take (i := 21) (oi := ({ dst := some 69, op := Op.load 3 (Operand.tmp 68), type := 3, pos := "ref.go:261", after := #[{ on := 20, ground := Ground.data }, { on := 14, ground := Ground.guard }], guard := some (14, false) })) (v := ?_) rfl (by kernel_rfl) (by kernel_rfl) (by kernel_rfl) (fun _ _ _ h => h) (Or.inl ⟨by rfl, ?_⟩) (by assumption) ?_
            rotate_left
            · (intro w hSw; (try dsimp only at hSw); go_simp; (try with_reducible rfl))
            (try simp only [Act.put, List.setIfInBounds_toArray, List.set_cons_zero, List.set_cons_succ])
            refine wpAnyH_ready (rs := [22]) (by kernel_rfl) (by simp) ?_
            refine AllReadyH.cons (o := ({ dst := some 70, op := Op.call { callee := Callee.value (Operand.func 22), args := #[Operand.tmp 63, Operand.tmp 66, Operand.tmp 69], argTypes := #[27, 3, 3] }, type := 24, pos := "ref.go:261", after := #[{ on := 15, ground := Ground.data }, { on := 18, ground := Ground.data }, { on := 21, ground := Ground.data }, { on := 14, ground := Ground.chain }, { on := 14, ground := Ground.guard }], guard := some (14, false) })) rfl (fun K hK => ?_) AllReadyH.nil
            go_simp
            go_at_call 22; refine (kU.out _ HR3.out).mono ?_; rintro e u4 ⟨rfl, hl4⟩; have HR4 := hidW (HR3.out.left hl4 HU.out); have HG4 := hidW (DLeft.ints HR3.out.lies hl4 HG3.out); obtain ⟨t0, t1, t2, t3⟩ := row4 HG4.out; clear hl4
            (try go_wp2_with fail)
            refine hK.out _ _ ⟨t0, t1, t2, t3⟩ (fun hHeld => ?_)
            clear hK K
            (try simp only [Act.put, List.setIfInBounds_toArray, List.set_cons_zero, List.set_cons_succ])
            refine wpAnyH_take (i := 23) (oi := ({ dst := some 71, op := Op.binOp BinOp.neq 24 (Operand.tmp 70) (Operand.const (Value.int IntKind.i64 0)) 24, type := 4, pos := "ref.go:261", after := #[{ on := 22, ground := Ground.data }, { on := 14, ground := Ground.guard }], guard := some (14, false) })) (v := ?_) rfl (by kernel_rfl) (by kernel_rfl) (by kernel_rfl) (fun _ _ _ h => h) (Or.inl ⟨by rfl, ?_⟩) (by assumption) ?_
            rotate_left
            · (intro w hSw; (try dsimp only at hSw); go_simp; (try with_reducible rfl))
            (try simp only [Act.put, List.setIfInBounds_toArray, List.set_cons_zero, List.set_cons_succ])
            refine wpAnyH_take (i := 24) (oi := ({ dst := some 72, op := Op.pick (Operand.tmp 62) (Operand.const (Value.bool true)) (Operand.tmp 71), type := 4, pos := "ref.go:261", after := #[{ on := 14, ground := Ground.data }, { on := 23, ground := Ground.data }], guard := none })) (v := ?_) rfl (by kernel_rfl) (by kernel_rfl) (by kernel_rfl) (fun _ _ _ h => h) (Or.inl ⟨by rfl, ?_⟩) (by assumption) ?_
            rotate_left
            · (intro w hSw; (try dsimp only at hSw); go_simp; (try with_reducible rfl))
            (try simp only [Act.put, List.setIfInBounds_toArray, List.set_cons_zero, List.set_cons_succ])
            refine wpAnyH_take (i := 25) (oi := ({ dst := some 73, op := Op.move (Operand.tmp 72), type := 4, pos := "ref.go:261", after := #[{ on := 24, ground := Ground.data }, { on := 22, ground := Ground.chain }], guard := none })) (v := ?_) rfl (by kernel_rfl) (by kernel_rfl) (by kernel_rfl) (fun _ _ _ h => h) (Or.inl ⟨by rfl, ?_⟩) (by assumption) ?_
            rotate_left
            · (intro w hSw; (try dsimp only at hSw); go_simp; (try with_reducible rfl))
            (try simp only [Act.put, List.setIfInBounds_toArray, List.set_cons_zero, List.set_cons_succ])
            refine wpAnyH_take (i := 26) (oi := ({ dst := some 74, op := Op.move (Operand.tmp 7), type := 51, pos := "ref.go:261", after := #[{ on := 25, ground := Ground.guard }], guard := some (25, false) })) (v := undef) rfl (by kernel_rfl) (by kernel_rfl) (by kernel_rfl) (fun _ _ _ h => h) (Or.inr ⟨by rfl, rfl⟩) (by assumption) ?_
            (try simp only [Act.put, List.setIfInBounds_toArray, List.set_cons_zero, List.set_cons_succ])
            refine wpAnyH_take (i := 27) (oi := ({ dst := some 75, op := Op.indexAddr 51 (Operand.tmp 74) (Operand.const (Value.int IntKind.i64 3)), type := 0, pos := "ref.go:261", after := #[{ on := 26, ground := Ground.data }, { on := 25, ground := Ground.guard }], guard := some (25, false) })) (v := undef) rfl (by kernel_rfl) (by kernel_rfl) (by kernel_rfl) (fun _ _ _ h => h) (Or.inr ⟨by rfl, rfl⟩) (by assumption) ?_
            (try simp only [Act.put, List.setIfInBounds_toArray, List.set_cons_zero, List.set_cons_succ])
            refine wpAnyH_take (i := 28) (oi := ({ dst := some 76, op := Op.load 3 (Operand.tmp 75), type := 3, pos := "ref.go:261", after := #[{ on := 27, ground := Ground.data }, { on := 25, ground := Ground.guard }], guard := some (25, false) })) (v := undef) rfl (by kernel_rfl) (by kernel_rfl) (by kernel_rfl) (fun _ _ _ h => h) (Or.inr ⟨by rfl, rfl⟩) (by assumption) ?_
            (try simp only [Act.put, List.setIfInBounds_toArray, List.set_cons_zero, List.set_cons_succ])
            refine wpAnyH_take (i := 29) (oi := ({ dst := some 77, op := Op.move (Operand.tmp 7), type := 51, pos := "ref.go:261", after := #[{ on := 25, ground := Ground.guard }], guard := some (25, false) })) (v := undef) rfl (by kernel_rfl) (by kernel_rfl) (by kernel_rfl) (fun _ _ _ h => h) (Or.inr ⟨by rfl, rfl⟩) (by assumption) ?_
            (try simp only [Act.put, List.setIfInBounds_toArray, List.set_cons_zero, List.set_cons_succ])
            refine wpAnyH_take (i := 30) (oi := ({ dst := some 78, op := Op.indexAddr 51 (Operand.tmp 77) (Operand.const (Value.int IntKind.i64 2)), type := 0, pos := "ref.go:261", after := #[{ on := 29, ground := Ground.data }, { on := 25, ground := Ground.guard }], guard := some (25, false) })) (v := undef) rfl (by kernel_rfl) (by kernel_rfl) (by kernel_rfl) (fun _ _ _ h => h) (Or.inr ⟨by rfl, rfl⟩) (by assumption) ?_
            (try simp only [Act.put, List.setIfInBounds_toArray, List.set_cons_zero, List.set_cons_succ])
            refine wpAnyH_take (i := 31) (oi := ({ dst := some 79, op := Op.load 3 (Operand.tmp 78), type := 3, pos := "ref.go:261", after := #[{ on := 30, ground := Ground.data }, { on := 25, ground := Ground.guard }], guard := some (25, false) })) (v := undef) rfl (by kernel_rfl) (by kernel_rfl) (by kernel_rfl) (fun _ _ _ h => h) (Or.inr ⟨by rfl, rfl⟩) (by assumption) ?_
            (try simp only [Act.put, List.setIfInBounds_toArray, List.set_cons_zero, List.set_cons_succ])
            refine wpAnyH_take (i := 32) (oi := ({ dst := some 80, op := Op.binOp BinOp.gtr 3 (Operand.tmp 76) (Operand.tmp 79) 3, type := 4, pos := "ref.go:261", after := #[{ on := 28, ground := Ground.data }, { on := 31, ground := Ground.data }, { on := 25, ground := Ground.guard }], guard := some (25, false) })) (v := undef) rfl (by kernel_rfl) (by kernel_rfl) (by kernel_rfl) (fun _ _ _ h => h) (Or.inr ⟨by rfl, rfl⟩) (by assumption) ?_
            (try simp only [Act.put, List.setIfInBounds_toArray, List.set_cons_zero, List.set_cons_succ])
            refine wpAnyH_take (i := 33) (oi := ({ dst := some 81, op := Op.pick (Operand.tmp 73) (Operand.const (Value.bool true)) (Operand.tmp 80), type := 4, pos := "ref.go:261", after := #[{ on := 25, ground := Ground.data }, { on := 32, ground := Ground.data }], guard := none })) (v := ?_) rfl (by kernel_rfl) (by kernel_rfl) (by kernel_rfl) (fun _ _ _ h => h) (Or.inl ⟨by rfl, ?_⟩) (by assumption) ?_
            rotate_left
            · (intro w hSw; (try dsimp only at hSw); go_simp; (try with_reducible rfl))
            (try simp only [Act.put, List.setIfInBounds_toArray, List.set_cons_zero, List.set_cons_succ])
            refine wpAnyH_take (i := 34) (oi := ({ dst := some 82, op := Op.move (Operand.tmp 81), type := 4, pos := "ref.go:261", after := #[{ on := 33, ground := Ground.data }, { on := 25, ground := Ground.chain }], guard := none })) (v := ?_) rfl (by kernel_rfl) (by kernel_rfl) (by kernel_rfl) (fun _ _ _ h => h) (Or.inl ⟨by rfl, ?_⟩) (by assumption) ?_
            rotate_left
            · (intro w hSw; (try dsimp only at hSw); go_simp; (try with_reducible rfl))
            (try simp only [Act.put, List.setIfInBounds_toArray, List.set_cons_zero, List.set_cons_succ])
            refine wpAnyH_take (i := 35) (oi := ({ dst := some 83, op := Op.move (Operand.tmp 8), type := 27, pos := "ref.go:261", after := #[{ on := 34, ground := Ground.guard }], guard := some (34, false) })) (v := undef) rfl (by kernel_rfl) (by kernel_rfl) (by kernel_rfl) (fun _ _ _ h => h) (Or.inr ⟨by rfl, rfl⟩) (by assumption) ?_
            (try simp only [Act.put, List.setIfInBounds_toArray, List.set_cons_zero, List.set_cons_succ])
            refine wpAnyH_take (i := 36) (oi := ({ dst := some 84, op := Op.move (Operand.tmp 7), type := 51, pos := "ref.go:261", after := #[{ on := 34, ground := Ground.guard }], guard := some (34, false) })) (v := undef) rfl (by kernel_rfl) (by kernel_rfl) (by kernel_rfl) (fun _ _ _ h => h) (Or.inr ⟨by rfl, rfl⟩) (by assumption) ?_
            (try simp only [Act.put, List.setIfInBounds_toArray, List.set_cons_zero, List.set_cons_succ])
            refine wpAnyH_take (i := 37) (oi := ({ dst := some 85, op := Op.indexAddr 51 (Operand.tmp 84) (Operand.const (Value.int IntKind.i64 0)), type := 0, pos := "ref.go:261", after := #[{ on := 36, ground := Ground.data }, { on := 34, ground := Ground.guard }], guard := some (34, false) })) (v := undef) rfl (by kernel_rfl) (by kernel_rfl) (by kernel_rfl) (fun _ _ _ h => h) (Or.inr ⟨by rfl, rfl⟩) (by assumption) ?_
            (try simp only [Act.put, List.setIfInBounds_toArray, List.set_cons_zero, List.set_cons_succ])
            refine wpAnyH_take (i := 38) (oi := ({ dst := some 86, op := Op.load 3 (Operand.tmp 85), type := 3, pos := "ref.go:261", after := #[{ on := 37, ground := Ground.data }, { on := 34, ground := Ground.guard }], guard := some (34, false) })) (v := undef) rfl (by kernel_rfl) (by kernel_rfl) (by kernel_rfl) (fun _ _ _ h => h) (Or.inr ⟨by rfl, rfl⟩) (by assumption) ?_
            (try simp only [Act.put, List.setIfInBounds_toArray, List.set_cons_zero, List.set_cons_succ])
            refine wpAnyH_take (i := 39) (oi := ({ dst := some 87, op := Op.move (Operand.tmp 7), type := 51, pos := "ref.go:261", after := #[{ on := 34, ground := Ground.guard }], guard := some (34, false) })) (v := undef) rfl (by kernel_rfl) (by kernel_rfl) (by kernel_rfl) (fun _ _ _ h => h) (Or.inr ⟨by rfl, rfl⟩) (by assumption) ?_
            (try simp only [Act.put, List.setIfInBounds_toArray, List.set_cons_zero, List.set_cons_succ])
            refine wpAnyH_take (i := 40) (oi := ({ dst := some 88, op := Op.indexAddr 51 (Operand.tmp 87) (Operand.const (Value.int IntKind.i64 2)), type := 0, pos := "ref.go:261", after := #[{ on := 39, ground := Ground.data }, { on := 34, ground := Ground.guard }], guard := some (34, false) })) (v := undef) rfl (by kernel_rfl) (by kernel_rfl) (by kernel_rfl) (fun _ _ _ h => h) (Or.inr ⟨by rfl, rfl⟩) (by assumption) ?_
            (try simp only [Act.put, List.setIfInBounds_toArray, List.set_cons_zero, List.set_cons_succ])
            refine wpAnyH_take (i := 41) (oi := ({ dst := some 89, op := Op.load 3 (Operand.tmp 88), type := 3, pos := "ref.go:261", after := #[{ on := 40, ground := Ground.data }, { on := 34, ground := Ground.guard }], guard := some (34, false) })) (v := undef) rfl (by kernel_rfl) (by kernel_rfl) (by kernel_rfl) (fun _ _ _ h => h) (Or.inr ⟨by rfl, rfl⟩) (by assumption) ?_
            (try simp only [Act.put, List.setIfInBounds_toArray, List.set_cons_zero, List.set_cons_succ])
            refine wpAnyH_take (i := 42) (oi := ({ dst := some 90, op := Op.move (Operand.tmp 7), type := 51, pos := "ref.go:261", after := #[{ on := 34, ground := Ground.guard }], guard := some (34, false) })) (v := undef) rfl (by kernel_rfl) (by kernel_rfl) (by kernel_rfl) (fun _ _ _ h => h) (Or.inr ⟨by rfl, rfl⟩) (by assumption) ?_
            (try simp only [Act.put, List.setIfInBounds_toArray, List.set_cons_zero, List.set_cons_succ])
            refine wpAnyH_take (i := 43) (oi := ({ dst := some 91, op := Op.indexAddr 51 (Operand.tmp 90) (Operand.const (Value.int IntKind.i64 3)), type := 0, pos := "ref.go:261", after := #[{ on := 42, ground := Ground.data }, { on := 34, ground := Ground.guard }], guard := some (34, false) })) (v := undef) rfl (by kernel_rfl) (by kernel_rfl) (by kernel_rfl) (fun _ _ _ h => h) (Or.inr ⟨by rfl, rfl⟩) (by assumption) ?_
            (try simp only [Act.put, List.setIfInBounds_toArray, List.set_cons_zero, List.set_cons_succ])
            refine wpAnyH_take (i := 44) (oi := ({ dst := some 92, op := Op.load 3 (Operand.tmp 91), type := 3, pos := "ref.go:261", after := #[{ on := 43, ground := Ground.data }, { on := 34, ground := Ground.guard }], guard := some (34, false) })) (v := undef) rfl (by kernel_rfl) (by kernel_rfl) (by kernel_rfl) (fun _ _ _ h => h) (Or.inr ⟨by rfl, rfl⟩) (by assumption) ?_
            (try simp only [Act.put, List.setIfInBounds_toArray, List.set_cons_zero, List.set_cons_succ])
            refine wpAnyH_take (i := 45) (oi := ({ dst := some 93, op := Op.binOp BinOp.sub 3 (Operand.tmp 89) (Operand.tmp 92) 3, type := 3, pos := "ref.go:261", after := #[{ on := 41, ground := Ground.data }, { on := 44, ground := Ground.data }, { on := 34, ground := Ground.guard }], guard := some (34, false) })) (v := undef) rfl (by kernel_rfl) (by kernel_rfl) (by kernel_rfl) (fun _ _ _ h => h) (Or.inr ⟨by rfl, rfl⟩) (by assumption) ?_
            (try simp only [Act.put, List.setIfInBounds_toArray, List.set_cons_zero, List.set_cons_succ])
            refine wpAnyH_take (i := 46) (oi := ({ dst := some 94, op := Op.call { callee := Callee.value (Operand.func 23), args := #[Operand.tmp 83, Operand.tmp 86, Operand.tmp 93], argTypes := #[27, 3, 3] }, type := 24, pos := "ref.go:261", after := #[{ on := 35, ground := Ground.data }, { on := 38, ground := Ground.data }, { on := 45, ground := Ground.data }, { on := 34, ground := Ground.chain }, { on := 34, ground := Ground.guard }], guard := some (34, false) })) (v := undef) rfl (by kernel_rfl) (by kernel_rfl) (by kernel_rfl) (fun _ _ _ h => h) (Or.inr ⟨by rfl, rfl⟩) (by assumption) ?_
            (try simp only [Act.put, List.setIfInBounds_toArray, List.set_cons_zero, List.set_cons_succ])
            refine wpAnyH_take (i := 47) (oi := ({ dst := some 95, op := Op.binOp BinOp.neq 24 (Operand.tmp 94) (Operand.const (Value.int IntKind.i64 0)) 24, type := 4, pos := "ref.go:261", after := #[{ on := 46, ground := Ground.data }, { on := 34, ground := Ground.guard }], guard := some (34, false) })) (v := undef) rfl (by kernel_rfl) (by kernel_rfl) (by kernel_rfl) (fun _ _ _ h => h) (Or.inr ⟨by rfl, rfl⟩) (by assumption) ?_
            (try simp only [Act.put, List.setIfInBounds_toArray, List.set_cons_zero, List.set_cons_succ])
            refine wpAnyH_take (i := 48) (oi := ({ dst := some 96, op := Op.pick (Operand.tmp 82) (Operand.const (Value.bool true)) (Operand.tmp 95), type := 4, pos := "ref.go:261", after := #[{ on := 34, ground := Ground.data }, { on := 47, ground := Ground.data }], guard := none })) (v := ?_) rfl (by kernel_rfl) (by kernel_rfl) (by kernel_rfl) (fun _ _ _ h => h) (Or.inl ⟨by rfl, ?_⟩) (by assumption) ?_
            rotate_left
            · (intro w hSw; (try dsimp only at hSw); go_simp; (try with_reducible rfl))
            (try simp only [Act.put, List.setIfInBounds_toArray, List.set_cons_zero, List.set_cons_succ])
            refine wpAnyH_done (by kernel_rfl) ?_ _
            go_wp2
            go_ret2
            exact dpar_none HP.out HR4.out.bel
        · have fT : (T1 != 0) = true := by simpa using eT
          have HP := hidW (HNone.out (by rw [HDr.out, if_pos eT]))
          clear eT
          go_wp2_with (first
          | (go_at_call 38; refine (kC2.out _).mono ?_; rintro e u1 ⟨rfl, hb1⟩; have HR1 := hidW (HR.out.later hb1); clear hb1)
          | (go_at_call 39; refine (kN2.out _).mono ?_; rintro e u2 ⟨v2, rfl, ho2, hb2⟩; obtain ⟨g2, cc2, rfl, _, _, _, hr2⟩ := Row.of_owns ho2 (by simp); have HR2 := hidW ((HR1.out.later hb2).later (Below.refl _ _).drew); have HG2 := hidW hr2.drew; obtain ⟨r0, r1, r2, r3⟩ := row4 hr2.drew; clear hb2 ho2 hr2; simp only [List.length_cons, List.length_nil, Nat.reduceAdd]))
          refine wp_region_held_drew (S := (fun w' => w'.cell? ⟨g2, 0, none⟩ = some (.int .i64 a) ∧ w'.cell? ⟨g2, 1, none⟩ = some (.int .i64 b) ∧ w'.cell? ⟨g2, 2, none⟩ = some (.int .i64 c) ∧ w'.cell? ⟨g2, 3, none⟩ = some (.int .i64 d))) (by kernel_rfl) ⟨r0, r1, r2, r3⟩ (fun hHeld => ?_)
          refine wpAnyH_take (i := 0) (oi := ({ dst := some 48, op := Op.move (Operand.tmp 7), type := 51, pos := "ref.go:261", after := #[], guard := none })) (v := ?_) rfl (by kernel_rfl) (by kernel_rfl) (by kernel_rfl) (fun _ _ _ h => h) (Or.inl ⟨by rfl, ?_⟩) (by assumption) ?_
          rotate_left
          · (intro w hSw; (try dsimp only at hSw); go_simp; (try with_reducible rfl))
          (try simp only [Act.put, List.setIfInBounds_toArray, List.set_cons_zero, List.set_cons_succ])
          refine wpAnyH_take (i := 1) (oi := ({ dst := some 49, op := Op.call { callee := Callee.builtin Builtin.len, args := #[Operand.tmp 48], argTypes := #[51] }, type := 3, pos := "ref.go:261", after := #[{ on := 0, ground := Ground.data }], guard := none })) (v := ?_) rfl (by kernel_rfl) (by kernel_rfl) (by kernel_rfl) (fun _ _ _ h => h) (Or.inl ⟨by rfl, ?_⟩) (by assumption) ?_
          rotate_left
          · (intro w hSw; (try dsimp only at hSw); go_simp; (try with_reducible rfl))
          (try simp only [Act.put, List.setIfInBounds_toArray, List.set_cons_zero, List.set_cons_succ])
          refine wpAnyH_take (i := 2) (oi := ({ dst := some 50, op := Op.binOp BinOp.neq 3 (Operand.tmp 49) (Operand.const (Value.int IntKind.i64 4)) 3, type := 4, pos := "ref.go:261", after := #[{ on := 1, ground := Ground.data }], guard := none })) (v := ?_) rfl (by kernel_rfl) (by kernel_rfl) (by kernel_rfl) (fun _ _ _ h => h) (Or.inl ⟨by rfl, ?_⟩) (by assumption) ?_
          rotate_left
          · (intro w hSw; (try dsimp only at hSw); go_simp; (try with_reducible rfl))
          (try simp only [Act.put, List.setIfInBounds_toArray, List.set_cons_zero, List.set_cons_succ])
          refine wpAnyH_take (i := 3) (oi := ({ dst := some 51, op := Op.move (Operand.tmp 50), type := 4, pos := "ref.go:261", after := #[{ on := 2, ground := Ground.data }], guard := none })) (v := ?_) rfl (by kernel_rfl) (by kernel_rfl) (by kernel_rfl) (fun _ _ _ h => h) (Or.inl ⟨by rfl, ?_⟩) (by assumption) ?_
          rotate_left
          · (intro w hSw; (try dsimp only at hSw); go_simp; (try with_reducible rfl))
          (try simp only [Act.put, List.setIfInBounds_toArray, List.set_cons_zero, List.set_cons_succ])
          refine wpAnyH_take (i := 4) (oi := ({ dst := some 52, op := Op.move (Operand.tmp 8), type := 27, pos := "ref.go:261", after := #[{ on := 3, ground := Ground.guard }], guard := some (3, false) })) (v := ?_) rfl (by kernel_rfl) (by kernel_rfl) (by kernel_rfl) (fun _ _ _ h => h) (Or.inl ⟨by rfl, ?_⟩) (by assumption) ?_
          rotate_left
          · (intro w hSw; (try dsimp only at hSw); go_simp; (try with_reducible rfl))
          (try simp only [Act.put, List.setIfInBounds_toArray, List.set_cons_zero, List.set_cons_succ])
          refine wpAnyH_take (i := 5) (oi := ({ dst := some 53, op := Op.move (Operand.tmp 7), type := 51, pos := "ref.go:261", after := #[{ on := 3, ground := Ground.guard }], guard := some (3, false) })) (v := ?_) rfl (by kernel_rfl) (by kernel_rfl) (by kernel_rfl) (fun _ _ _ h => h) (Or.inl ⟨by rfl, ?_⟩) (by assumption) ?_
          rotate_left
          · (intro w hSw; (try dsimp only at hSw); go_simp; (try with_reducible rfl))
          (try simp only [Act.put, List.setIfInBounds_toArray, List.set_cons_zero, List.set_cons_succ])
          refine wpAnyH_take (i := 6) (oi := ({ dst := some 54, op := Op.indexAddr 51 (Operand.tmp 53) (Operand.const (Value.int IntKind.i64 0)), type := 0, pos := "ref.go:261", after := #[{ on := 5, ground := Ground.data }, { on := 3, ground := Ground.guard }], guard := some (3, false) })) (v := ?_) rfl (by kernel_rfl) (by kernel_rfl) (by kernel_rfl) (fun _ _ _ h => h) (Or.inl ⟨by rfl, ?_⟩) (by assumption) ?_
          rotate_left
          · (intro w hSw; (try dsimp only at hSw); go_simp; (try with_reducible rfl))
          (try simp only [Act.put, List.setIfInBounds_toArray, List.set_cons_zero, List.set_cons_succ])
          refine wpAnyH_take (i := 7) (oi := ({ dst := some 55, op := Op.load 3 (Operand.tmp 54), type := 3, pos := "ref.go:261", after := #[{ on := 6, ground := Ground.data }, { on := 3, ground := Ground.guard }], guard := some (3, false) })) (v := ?_) rfl (by kernel_rfl) (by kernel_rfl) (by kernel_rfl) (fun _ _ _ h => h) (Or.inl ⟨by rfl, ?_⟩) (by assumption) ?_
          rotate_left
          · (intro w hSw; (try dsimp only at hSw); go_simp; (try with_reducible rfl))
          (try simp only [Act.put, List.setIfInBounds_toArray, List.set_cons_zero, List.set_cons_succ])
          refine wpAnyH_take (i := 8) (oi := ({ dst := some 56, op := Op.move (Operand.tmp 7), type := 51, pos := "ref.go:261", after := #[{ on := 3, ground := Ground.guard }], guard := some (3, false) })) (v := ?_) rfl (by kernel_rfl) (by kernel_rfl) (by kernel_rfl) (fun _ _ _ h => h) (Or.inl ⟨by rfl, ?_⟩) (by assumption) ?_
          rotate_left
          · (intro w hSw; (try dsimp only at hSw); go_simp; (try with_reducible rfl))
          (try simp only [Act.put, List.setIfInBounds_toArray, List.set_cons_zero, List.set_cons_succ])
          refine wpAnyH_take (i := 9) (oi := ({ dst := some 57, op := Op.indexAddr 51 (Operand.tmp 56) (Operand.const (Value.int IntKind.i64 1)), type := 0, pos := "ref.go:261", after := #[{ on := 8, ground := Ground.data }, { on := 3, ground := Ground.guard }], guard := some (3, false) })) (v := ?_) rfl (by kernel_rfl) (by kernel_rfl) (by kernel_rfl) (fun _ _ _ h => h) (Or.inl ⟨by rfl, ?_⟩) (by assumption) ?_
          rotate_left
          · (intro w hSw; (try dsimp only at hSw); go_simp; (try with_reducible rfl))
          (try simp only [Act.put, List.setIfInBounds_toArray, List.set_cons_zero, List.set_cons_succ])
          refine wpAnyH_take (i := 10) (oi := ({ dst := some 58, op := Op.load 3 (Operand.tmp 57), type := 3, pos := "ref.go:261", after := #[{ on := 9, ground := Ground.data }, { on := 3, ground := Ground.guard }], guard := some (3, false) })) (v := ?_) rfl (by kernel_rfl) (by kernel_rfl) (by kernel_rfl) (fun _ _ _ h => h) (Or.inl ⟨by rfl, ?_⟩) (by assumption) ?_
          rotate_left
          · (intro w hSw; (try dsimp only at hSw); go_simp; (try with_reducible rfl))
          (try simp only [Act.put, List.setIfInBounds_toArray, List.set_cons_zero, List.set_cons_succ])
          refine wpAnyH_ready (rs := [11]) (by kernel_rfl) (by simp) ?_
          refine AllReadyH.cons (o := ({ dst := some 59, op := Op.call { callee := Callee.value (Operand.func 21), args := #[Operand.tmp 52, Operand.tmp 55, Operand.tmp 58], argTypes := #[27, 3, 3] }, type := 24, pos := "ref.go:261", after := #[{ on := 4, ground := Ground.data }, { on := 7, ground := Ground.data }, { on := 10, ground := Ground.data }, { on := 3, ground := Ground.chain }, { on := 3, ground := Ground.guard }], guard := some (3, false) })) rfl (fun K hK => ?_) AllReadyH.nil
          go_simp
          go_at_call 21; refine (kT.out _ HR2.out).mono ?_; rintro e u3 ⟨rfl, hl3⟩; have HR3 := hidW (HR2.out.left hl3 HT.out); have HG3 := hidW (DLeft.ints HR2.out.lies hl3 HG2.out); obtain ⟨s0, s1, s2, s3⟩ := row4 HG3.out; clear hl3
          (try go_wp2_with fail)
          refine hK.out _ _ ⟨s0, s1, s2, s3⟩ (fun hHeld => ?_)
          clear hK K
          (try simp only [Act.put, List.setIfInBounds_toArray, List.set_cons_zero, List.set_cons_succ])
          refine wpAnyH_take (i := 12) (oi := ({ dst := some 60, op := Op.binOp BinOp.neq 24 (Operand.tmp 59) (Operand.const (Value.int IntKind.i64 0)) 24, type := 4, pos := "ref.go:261", after := #[{ on := 11, ground := Ground.data }, { on := 3, ground := Ground.guard }], guard := some (3, false) })) (v := ?_) rfl (by kernel_rfl) (by kernel_rfl) (by kernel_rfl) (fun _ _ _ h => h) (Or.inl ⟨by rfl, ?_⟩) (by assumption) ?_
          rotate_left
          · (intro w hSw; (try dsimp only at hSw); go_simp; (try with_reducible rfl))
          (try simp only [Act.put, List.setIfInBounds_toArray, List.set_cons_zero, List.set_cons_succ])
          refine wpAnyH_take (i := 13) (oi := ({ dst := some 61, op := Op.pick (Operand.tmp 51) (Operand.const (Value.bool true)) (Operand.tmp 60), type := 4, pos := "ref.go:261", after := #[{ on := 3, ground := Ground.data }, { on := 12, ground := Ground.data }], guard := none })) (v := ?_) rfl (by kernel_rfl) (by kernel_rfl) (by kernel_rfl) (fun _ _ _ h => h) (Or.inl ⟨by rfl, ?_⟩) (by assumption) ?_
          rotate_left
          · (intro w hSw; (try dsimp only at hSw); go_simp; (try with_reducible rfl))
          (try simp only [Act.put, List.setIfInBounds_toArray, List.set_cons_zero, List.set_cons_succ])
          refine wpAnyH_take (i := 14) (oi := ({ dst := some 62, op := Op.move (Operand.tmp 61), type := 4, pos := "ref.go:261", after := #[{ on := 13, ground := Ground.data }, { on := 11, ground := Ground.chain }], guard := none })) (v := ?_) rfl (by kernel_rfl) (by kernel_rfl) (by kernel_rfl) (fun _ _ _ h => h) (Or.inl ⟨by rfl, ?_⟩) (by assumption) ?_
          rotate_left
          · (intro w hSw; (try dsimp only at hSw); go_simp; (try with_reducible rfl))
          (try simp only [Act.put, List.setIfInBounds_toArray, List.set_cons_zero, List.set_cons_succ])
          refine wpAnyH_take (i := 15) (oi := ({ dst := some 63, op := Op.move (Operand.tmp 8), type := 27, pos := "ref.go:261", after := #[{ on := 14, ground := Ground.guard }], guard := some (14, false) })) (v := undef) rfl (by kernel_rfl) (by kernel_rfl) (by kernel_rfl) (fun _ _ _ h => h) (Or.inr ⟨by rfl, rfl⟩) (by assumption) ?_
          (try simp only [Act.put, List.setIfInBounds_toArray, List.set_cons_zero, List.set_cons_succ])
          refine wpAnyH_take (i := 16) (oi := ({ dst := some 64, op := Op.move (Operand.tmp 7), type := 51, pos := "ref.go:261", after := #[{ on := 14, ground := Ground.guard }], guard := some (14, false) })) (v := undef) rfl (by kernel_rfl) (by kernel_rfl) (by kernel_rfl) (fun _ _ _ h => h) (Or.inr ⟨by rfl, rfl⟩) (by assumption) ?_
          (try simp only [Act.put, List.setIfInBounds_toArray, List.set_cons_zero, List.set_cons_succ])
          refine wpAnyH_take (i := 17) (oi := ({ dst := some 65, op := Op.indexAddr 51 (Operand.tmp 64) (Operand.const (Value.int IntKind.i64 0)), type := 0, pos := "ref.go:261", after := #[{ on := 16, ground := Ground.data }, { on := 14, ground := Ground.guard }], guard := some (14, false) })) (v := undef) rfl (by kernel_rfl) (by kernel_rfl) (by kernel_rfl) (fun _ _ _ h => h) (Or.inr ⟨by rfl, rfl⟩) (by assumption) ?_
          (try simp only [Act.put, List.setIfInBounds_toArray, List.set_cons_zero, List.set_cons_succ])
          refine wpAnyH_take (i := 18) (oi := ({ dst := some 66, op := Op.load 3 (Operand.tmp 65), type := 3, pos := "ref.go:261", after := #[{ on := 17, ground := Ground.data }, { on := 14, ground := Ground.guard }], guard := some (14, false) })) (v := undef) rfl (by kernel_rfl) (by kernel_rfl) (by kernel_rfl) (fun _ _ _ h => h) (Or.inr ⟨by rfl, rfl⟩) (by assumption) ?_
          (try simp only [Act.put, List.setIfInBounds_toArray, List.set_cons_zero, List.set_cons_succ])
          refine wpAnyH_take (i := 19) (oi := ({ dst := some 67, op := Op.move (Operand.tmp 7), type := 51, pos := "ref.go:261", after := #[{ on := 14, ground := Ground.guard }], guard := some (14, false) })) (v := undef) rfl (by kernel_rfl) (by kernel_rfl) (by kernel_rfl) (fun _ _ _ h => h) (Or.inr ⟨by rfl, rfl⟩) (by assumption) ?_
          (try simp only [Act.put, List.setIfInBounds_toArray, List.set_cons_zero, List.set_cons_succ])
          refine wpAnyH_take (i := 20) (oi := ({ dst := some 68, op := Op.indexAddr 51 (Operand.tmp 67) (Operand.const (Value.int IntKind.i64 2)), type := 0, pos := "ref.go:261", after := #[{ on := 19, ground := Ground.data }, { on := 14, ground := Ground.guard }], guard := some (14, false) })) (v := undef) rfl (by kernel_rfl) (by kernel_rfl) (by kernel_rfl) (fun _ _ _ h => h) (Or.inr ⟨by rfl, rfl⟩) (by assumption) ?_
          (try simp only [Act.put, List.setIfInBounds_toArray, List.set_cons_zero, List.set_cons_succ])
          refine wpAnyH_take (i := 21) (oi := ({ dst := some 69, op := Op.load 3 (Operand.tmp 68), type := 3, pos := "ref.go:261", after := #[{ on := 20, ground := Ground.data }, { on := 14, ground := Ground.guard }], guard := some (14, false) })) (v := undef) rfl (by kernel_rfl) (by kernel_rfl) (by kernel_rfl) (fun _ _ _ h => h) (Or.inr ⟨by rfl, rfl⟩) (by assumption) ?_
          (try simp only [Act.put, List.setIfInBounds_toArray, List.set_cons_zero, List.set_cons_succ])
          refine wpAnyH_take (i := 22) (oi := ({ dst := some 70, op := Op.call { callee := Callee.value (Operand.func 22), args := #[Operand.tmp 63, Operand.tmp 66, Operand.tmp 69], argTypes := #[27, 3, 3] }, type := 24, pos := "ref.go:261", after := #[{ on := 15, ground := Ground.data }, { on := 18, ground := Ground.data }, { on := 21, ground := Ground.data }, { on := 14, ground := Ground.chain }, { on := 14, ground := Ground.guard }], guard := some (14, false) })) (v := undef) rfl (by kernel_rfl) (by kernel_rfl) (by kernel_rfl) (fun _ _ _ h => h) (Or.inr ⟨by rfl, rfl⟩) (by assumption) ?_
          (try simp only [Act.put, List.setIfInBounds_toArray, List.set_cons_zero, List.set_cons_succ])
          refine wpAnyH_take (i := 23) (oi := ({ dst := some 71, op := Op.binOp BinOp.neq 24 (Operand.tmp 70) (Operand.const (Value.int IntKind.i64 0)) 24, type := 4, pos := "ref.go:261", after := #[{ on := 22, ground := Ground.data }, { on := 14, ground := Ground.guard }], guard := some (14, false) })) (v := undef) rfl (by kernel_rfl) (by kernel_rfl) (by kernel_rfl) (fun _ _ _ h => h) (Or.inr ⟨by rfl, rfl⟩) (by assumption) ?_
          (try simp only [Act.put, List.setIfInBounds_toArray, List.set_cons_zero, List.set_cons_succ])
          refine wpAnyH_take (i := 24) (oi := ({ dst := some 72, op := Op.pick (Operand.tmp 62) (Operand.const (Value.bool true)) (Operand.tmp 71), type := 4, pos := "ref.go:261", after := #[{ on := 14, ground := Ground.data }, { on := 23, ground := Ground.data }], guard := none })) (v := ?_) rfl (by kernel_rfl) (by kernel_rfl) (by kernel_rfl) (fun _ _ _ h => h) (Or.inl ⟨by rfl, ?_⟩) (by assumption) ?_
          rotate_left
          · (intro w hSw; (try dsimp only at hSw); go_simp; (try with_reducible rfl))
          (try simp only [Act.put, List.setIfInBounds_toArray, List.set_cons_zero, List.set_cons_succ])
          refine wpAnyH_take (i := 25) (oi := ({ dst := some 73, op := Op.move (Operand.tmp 72), type := 4, pos := "ref.go:261", after := #[{ on := 24, ground := Ground.data }, { on := 22, ground := Ground.chain }], guard := none })) (v := ?_) rfl (by kernel_rfl) (by kernel_rfl) (by kernel_rfl) (fun _ _ _ h => h) (Or.inl ⟨by rfl, ?_⟩) (by assumption) ?_
          rotate_left
          · (intro w hSw; (try dsimp only at hSw); go_simp; (try with_reducible rfl))
          (try simp only [Act.put, List.setIfInBounds_toArray, List.set_cons_zero, List.set_cons_succ])
          refine wpAnyH_take (i := 26) (oi := ({ dst := some 74, op := Op.move (Operand.tmp 7), type := 51, pos := "ref.go:261", after := #[{ on := 25, ground := Ground.guard }], guard := some (25, false) })) (v := undef) rfl (by kernel_rfl) (by kernel_rfl) (by kernel_rfl) (fun _ _ _ h => h) (Or.inr ⟨by rfl, rfl⟩) (by assumption) ?_
          (try simp only [Act.put, List.setIfInBounds_toArray, List.set_cons_zero, List.set_cons_succ])
          refine wpAnyH_take (i := 27) (oi := ({ dst := some 75, op := Op.indexAddr 51 (Operand.tmp 74) (Operand.const (Value.int IntKind.i64 3)), type := 0, pos := "ref.go:261", after := #[{ on := 26, ground := Ground.data }, { on := 25, ground := Ground.guard }], guard := some (25, false) })) (v := undef) rfl (by kernel_rfl) (by kernel_rfl) (by kernel_rfl) (fun _ _ _ h => h) (Or.inr ⟨by rfl, rfl⟩) (by assumption) ?_
          (try simp only [Act.put, List.setIfInBounds_toArray, List.set_cons_zero, List.set_cons_succ])
          refine wpAnyH_take (i := 28) (oi := ({ dst := some 76, op := Op.load 3 (Operand.tmp 75), type := 3, pos := "ref.go:261", after := #[{ on := 27, ground := Ground.data }, { on := 25, ground := Ground.guard }], guard := some (25, false) })) (v := undef) rfl (by kernel_rfl) (by kernel_rfl) (by kernel_rfl) (fun _ _ _ h => h) (Or.inr ⟨by rfl, rfl⟩) (by assumption) ?_
          (try simp only [Act.put, List.setIfInBounds_toArray, List.set_cons_zero, List.set_cons_succ])
          refine wpAnyH_take (i := 29) (oi := ({ dst := some 77, op := Op.move (Operand.tmp 7), type := 51, pos := "ref.go:261", after := #[{ on := 25, ground := Ground.guard }], guard := some (25, false) })) (v := undef) rfl (by kernel_rfl) (by kernel_rfl) (by kernel_rfl) (fun _ _ _ h => h) (Or.inr ⟨by rfl, rfl⟩) (by assumption) ?_
          (try simp only [Act.put, List.setIfInBounds_toArray, List.set_cons_zero, List.set_cons_succ])
          refine wpAnyH_take (i := 30) (oi := ({ dst := some 78, op := Op.indexAddr 51 (Operand.tmp 77) (Operand.const (Value.int IntKind.i64 2)), type := 0, pos := "ref.go:261", after := #[{ on := 29, ground := Ground.data }, { on := 25, ground := Ground.guard }], guard := some (25, false) })) (v := undef) rfl (by kernel_rfl) (by kernel_rfl) (by kernel_rfl) (fun _ _ _ h => h) (Or.inr ⟨by rfl, rfl⟩) (by assumption) ?_
          (try simp only [Act.put, List.setIfInBounds_toArray, List.set_cons_zero, List.set_cons_succ])
          refine wpAnyH_take (i := 31) (oi := ({ dst := some 79, op := Op.load 3 (Operand.tmp 78), type := 3, pos := "ref.go:261", after := #[{ on := 30, ground := Ground.data }, { on := 25, ground := Ground.guard }], guard := some (25, false) })) (v := undef) rfl (by kernel_rfl) (by kernel_rfl) (by kernel_rfl) (fun _ _ _ h => h) (Or.inr ⟨by rfl, rfl⟩) (by assumption) ?_
          (try simp only [Act.put, List.setIfInBounds_toArray, List.set_cons_zero, List.set_cons_succ])
          refine wpAnyH_take (i := 32) (oi := ({ dst := some 80, op := Op.binOp BinOp.gtr 3 (Operand.tmp 76) (Operand.tmp 79) 3, type := 4, pos := "ref.go:261", after := #[{ on := 28, ground := Ground.data }, { on := 31, ground := Ground.data }, { on := 25, ground := Ground.guard }], guard := some (25, false) })) (v := undef) rfl (by kernel_rfl) (by kernel_rfl) (by kernel_rfl) (fun _ _ _ h => h) (Or.inr ⟨by rfl, rfl⟩) (by assumption) ?_
          (try simp only [Act.put, List.setIfInBounds_toArray, List.set_cons_zero, List.set_cons_succ])
          refine wpAnyH_take (i := 33) (oi := ({ dst := some 81, op := Op.pick (Operand.tmp 73) (Operand.const (Value.bool true)) (Operand.tmp 80), type := 4, pos := "ref.go:261", after := #[{ on := 25, ground := Ground.data }, { on := 32, ground := Ground.data }], guard := none })) (v := ?_) rfl (by kernel_rfl) (by kernel_rfl) (by kernel_rfl) (fun _ _ _ h => h) (Or.inl ⟨by rfl, ?_⟩) (by assumption) ?_
          rotate_left
          · (intro w hSw; (try dsimp only at hSw); go_simp; (try with_reducible rfl))
          (try simp only [Act.put, List.setIfInBounds_toArray, List.set_cons_zero, List.set_cons_succ])
          refine wpAnyH_take (i := 34) (oi := ({ dst := some 82, op := Op.move (Operand.tmp 81), type := 4, pos := "ref.go:261", after := #[{ on := 33, ground := Ground.data }, { on := 25, ground := Ground.chain }], guard := none })) (v := ?_) rfl (by kernel_rfl) (by kernel_rfl) (by kernel_rfl) (fun _ _ _ h => h) (Or.inl ⟨by rfl, ?_⟩) (by assumption) ?_
          rotate_left
          · (intro w hSw; (try dsimp only at hSw); go_simp; (try with_reducible rfl))
          (try simp only [Act.put, List.setIfInBounds_toArray, List.set_cons_zero, List.set_cons_succ])
          refine wpAnyH_take (i := 35) (oi := ({ dst := some 83, op := Op.move (Operand.tmp 8), type := 27, pos := "ref.go:261", after := #[{ on := 34, ground := Ground.guard }], guard := some (34, false) })) (v := undef) rfl (by kernel_rfl) (by kernel_rfl) (by kernel_rfl) (fun _ _ _ h => h) (Or.inr ⟨by rfl, rfl⟩) (by assumption) ?_
          (try simp only [Act.put, List.setIfInBounds_toArray, List.set_cons_zero, List.set_cons_succ])
          refine wpAnyH_take (i := 36) (oi := ({ dst := some 84, op := Op.move (Operand.tmp 7), type := 51, pos := "ref.go:261", after := #[{ on := 34, ground := Ground.guard }], guard := some (34, false) })) (v := undef) rfl (by kernel_rfl) (by kernel_rfl) (by kernel_rfl) (fun _ _ _ h => h) (Or.inr ⟨by rfl, rfl⟩) (by assumption) ?_
          (try simp only [Act.put, List.setIfInBounds_toArray, List.set_cons_zero, List.set_cons_succ])
          refine wpAnyH_take (i := 37) (oi := ({ dst := some 85, op := Op.indexAddr 51 (Operand.tmp 84) (Operand.const (Value.int IntKind.i64 0)), type := 0, pos := "ref.go:261", after := #[{ on := 36, ground := Ground.data }, { on := 34, ground := Ground.guard }], guard := some (34, false) })) (v := undef) rfl (by kernel_rfl) (by kernel_rfl) (by kernel_rfl) (fun _ _ _ h => h) (Or.inr ⟨by rfl, rfl⟩) (by assumption) ?_
          (try simp only [Act.put, List.setIfInBounds_toArray, List.set_cons_zero, List.set_cons_succ])
          refine wpAnyH_take (i := 38) (oi := ({ dst := some 86, op := Op.load 3 (Operand.tmp 85), type := 3, pos := "ref.go:261", after := #[{ on := 37, ground := Ground.data }, { on := 34, ground := Ground.guard }], guard := some (34, false) })) (v := undef) rfl (by kernel_rfl) (by kernel_rfl) (by kernel_rfl) (fun _ _ _ h => h) (Or.inr ⟨by rfl, rfl⟩) (by assumption) ?_
          (try simp only [Act.put, List.setIfInBounds_toArray, List.set_cons_zero, List.set_cons_succ])
          refine wpAnyH_take (i := 39) (oi := ({ dst := some 87, op := Op.move (Operand.tmp 7), type := 51, pos := "ref.go:261", after := #[{ on := 34, ground := Ground.guard }], guard := some (34, false) })) (v := undef) rfl (by kernel_rfl) (by kernel_rfl) (by kernel_rfl) (fun _ _ _ h => h) (Or.inr ⟨by rfl, rfl⟩) (by assumption) ?_
          (try simp only [Act.put, List.setIfInBounds_toArray, List.set_cons_zero, List.set_cons_succ])
          refine wpAnyH_take (i := 40) (oi := ({ dst := some 88, op := Op.indexAddr 51 (Operand.tmp 87) (Operand.const (Value.int IntKind.i64 2)), type := 0, pos := "ref.go:261", after := #[{ on := 39, ground := Ground.data }, { on := 34, ground := Ground.guard }], guard := some (34, false) })) (v := undef) rfl (by kernel_rfl) (by kernel_rfl) (by kernel_rfl) (fun _ _ _ h => h) (Or.inr ⟨by rfl, rfl⟩) (by assumption) ?_
          (try simp only [Act.put, List.setIfInBounds_toArray, List.set_cons_zero, List.set_cons_succ])
          refine wpAnyH_take (i := 41) (oi := ({ dst := some 89, op := Op.load 3 (Operand.tmp 88), type := 3, pos := "ref.go:261", after := #[{ on := 40, ground := Ground.data }, { on := 34, ground := Ground.guard }], guard := some (34, false) })) (v := undef) rfl (by kernel_rfl) (by kernel_rfl) (by kernel_rfl) (fun _ _ _ h => h) (Or.inr ⟨by rfl, rfl⟩) (by assumption) ?_
          (try simp only [Act.put, List.setIfInBounds_toArray, List.set_cons_zero, List.set_cons_succ])
          refine wpAnyH_take (i := 42) (oi := ({ dst := some 90, op := Op.move (Operand.tmp 7), type := 51, pos := "ref.go:261", after := #[{ on := 34, ground := Ground.guard }], guard := some (34, false) })) (v := undef) rfl (by kernel_rfl) (by kernel_rfl) (by kernel_rfl) (fun _ _ _ h => h) (Or.inr ⟨by rfl, rfl⟩) (by assumption) ?_
          (try simp only [Act.put, List.setIfInBounds_toArray, List.set_cons_zero, List.set_cons_succ])
          refine wpAnyH_take (i := 43) (oi := ({ dst := some 91, op := Op.indexAddr 51 (Operand.tmp 90) (Operand.const (Value.int IntKind.i64 3)), type := 0, pos := "ref.go:261", after := #[{ on := 42, ground := Ground.data }, { on := 34, ground := Ground.guard }], guard := some (34, false) })) (v := undef) rfl (by kernel_rfl) (by kernel_rfl) (by kernel_rfl) (fun _ _ _ h => h) (Or.inr ⟨by rfl, rfl⟩) (by assumption) ?_
          (try simp only [Act.put, List.setIfInBounds_toArray, List.set_cons_zero, List.set_cons_succ])
          refine wpAnyH_take (i := 44) (oi := ({ dst := some 92, op := Op.load 3 (Operand.tmp 91), type := 3, pos := "ref.go:261", after := #[{ on := 43, ground := Ground.data }, { on := 34, ground := Ground.guard }], guard := some (34, false) })) (v := undef) rfl (by kernel_rfl) (by kernel_rfl) (by kernel_rfl) (fun _ _ _ h => h) (Or.inr ⟨by rfl, rfl⟩) (by assumption) ?_
          (try simp only [Act.put, List.setIfInBounds_toArray, List.set_cons_zero, List.set_cons_succ])
          refine wpAnyH_take (i := 45) (oi := ({ dst := some 93, op := Op.binOp BinOp.sub 3 (Operand.tmp 89) (Operand.tmp 92) 3, type := 3, pos := "ref.go:261", after := #[{ on := 41, ground := Ground.data }, { on := 44, ground := Ground.data }, { on := 34, ground := Ground.guard }], guard := some (34, false) })) (v := undef) rfl (by kernel_rfl) (by kernel_rfl) (by kernel_rfl) (fun _ _ _ h => h) (Or.inr ⟨by rfl, rfl⟩) (by assumption) ?_
          (try simp only [Act.put, List.setIfInBounds_toArray, List.set_cons_zero, List.set_cons_succ])
          refine wpAnyH_take (i := 46) (oi := ({ dst := some 94, op := Op.call { callee := Callee.value (Operand.func 23), args := #[Operand.tmp 83, Operand.tmp 86, Operand.tmp 93], argTypes := #[27, 3, 3] }, type := 24, pos := "ref.go:261", after := #[{ on := 35, ground := Ground.data }, { on := 38, ground := Ground.data }, { on := 45, ground := Ground.data }, { on := 34, ground := Ground.chain }, { on := 34, ground := Ground.guard }], guard := some (34, false) })) (v := undef) rfl (by kernel_rfl) (by kernel_rfl) (by kernel_rfl) (fun _ _ _ h => h) (Or.inr ⟨by rfl, rfl⟩) (by assumption) ?_
          (try simp only [Act.put, List.setIfInBounds_toArray, List.set_cons_zero, List.set_cons_succ])
          refine wpAnyH_take (i := 47) (oi := ({ dst := some 95, op := Op.binOp BinOp.neq 24 (Operand.tmp 94) (Operand.const (Value.int IntKind.i64 0)) 24, type := 4, pos := "ref.go:261", after := #[{ on := 46, ground := Ground.data }, { on := 34, ground := Ground.guard }], guard := some (34, false) })) (v := undef) rfl (by kernel_rfl) (by kernel_rfl) (by kernel_rfl) (fun _ _ _ h => h) (Or.inr ⟨by rfl, rfl⟩) (by assumption) ?_
          (try simp only [Act.put, List.setIfInBounds_toArray, List.set_cons_zero, List.set_cons_succ])
          refine wpAnyH_take (i := 48) (oi := ({ dst := some 96, op := Op.pick (Operand.tmp 82) (Operand.const (Value.bool true)) (Operand.tmp 95), type := 4, pos := "ref.go:261", after := #[{ on := 34, ground := Ground.data }, { on := 47, ground := Ground.data }], guard := none })) (v := ?_) rfl (by kernel_rfl) (by kernel_rfl) (by kernel_rfl) (fun _ _ _ h => h) (Or.inl ⟨by rfl, ?_⟩) (by assumption) ?_
          rotate_left
          · (intro w hSw; (try dsimp only at hSw); go_simp; (try with_reducible rfl))
          (try simp only [Act.put, List.setIfInBounds_toArray, List.set_cons_zero, List.set_cons_succ])
          refine wpAnyH_done (by kernel_rfl) ?_ _
          go_wp2
          go_ret2
          exact dpar_none HP.out HR3.out.bel
      · obtain ⟨m, hm⟩ : ∃ m, m = (nums L).length := ⟨_, rfl⟩
        have HP := hidW (HNone.out (by
          unfold drow
          split
          · rename_i e; rw [e] at hns; exact absurd rfl hns
          · rfl))
        rw [← hm] at hns
        have e2 : ((m : Int) != 4) = true := by simp; omega
        have HMm := hidW hm
        clear hm hns
        go_wp2_with (first
          | (go_at_call 38; refine (kC2.out _).mono ?_; rintro e u1 ⟨rfl, hb1⟩; have HR1 := hidW (HR.out.later hb1); clear hb1)
          | (go_at_call 39; refine (kN2.out _).mono ?_; rintro e u2 ⟨v2, rfl, ho2, hb2⟩; obtain ⟨a2, cc2, rfl⟩ := owns_form ho2; have HR2 := hidW (HR1.out.later hb2); clear hb2 ho2; rw [← HMm.out]))
        go_quiet (fail)
        go_wp2
        go_ret2
        exact dpar_none HP.out (by first | exact HR2.out.bel | exact HR2.out.bel.trans (below_drawn _ _ ) | exact Below.after HR2.out.bel (below_drawn _ _))
end Go.Proofs.YtmaekpfkkpkgpaaGreatDoor
namespace Go.Proofs.YtmaekpfkkpkgpaaGreatDoor
open Go.RowKit Go.Shelf
set_option maxRecDepth 10000

theorem dparse_any (s : List UInt8) (hs : s.length ≤ 1048576) (w : World) : Calls Tryz.prog 11 #[.string (bs s)] w (DPar w (dparse s)) := by
  by_cases h1 : (10 : UInt8) ∈ s
  · by_cases h2 : (nums (ahd 10 s)).length = 2
    · obtain ⟨n, size, hn⟩ : ∃ n size, nums (ahd 10 s) = [n, size] := by
        match hM : nums (ahd 10 s) with
        | [a, b] => exact ⟨a, b, rfl⟩
        | [] => rw [hM] at h2; simp at h2
        | [_] => rw [hM] at h2; simp at h2
        | _ :: _ :: _ :: _ => rw [hM] at h2; simp at h2
      by_cases hok : newOk n size
      · obtain ⟨k, rfl⟩ : ∃ k : Nat, n = (k : Int) := ⟨n.toNat, by have := hok.1; omega⟩
        exact dparse_go s hs w h1 k size hn hok
      · exact dparse_new s hs w h1 n size hn hok
    · exact dparse_len s hs w (.inr h2)
  · exact dparse_len s hs w (.inl h1)
end Go.Proofs.YtmaekpfkkpkgpaaGreatDoor
