/-
  A book's text is read as the book.
-/
import Derived.Test.YtmaekpfkkpkgpaaGreatDoorBParse
namespace Go.Proofs.YtmaekpfkkpkgpaaGreatDoor
open Go.RowKit Go.Shelf
set_option maxRecDepth 10000

theorem dig_nat {i : Nat} (h : i < 10) : (UInt8.ofNat (48 + i)).toNat = 48 + i := by
  rw [UInt8.toNat_ofNat']
  omega
theorem dig_all (u : Nat) : ∀ c ∈ Lib.decDigits u, 48 ≤ c.toNat ∧ c.toNat ≤ 57 := by
  induction u using Nat.strongRecOn with
  | ind u ih =>
    rw [Lib.decDigits]
    split
    · rename_i h
      intro c hc
      rw [List.mem_singleton.1 hc, dig_nat h]
      omega
    · rename_i h
      intro c hc
      rcases List.mem_append.1 hc with hc | hc
      · exact ih (u / 10) (by omega) c hc
      · rw [List.mem_singleton.1 hc, dig_nat (by omega)]
        omega
theorem dig_ne (u : Nat) : Lib.decDigits u ≠ [] := by
  rw [Lib.decDigits]
  split <;> simp
theorem parse_app (a b : List UInt8) : ∀ (acc v : Nat), Lib.parseUint10 acc a = .ok v → Lib.parseUint10 acc (a ++ b) = Lib.parseUint10 v b := by
  induction a with
  | nil => intro acc v h; simp [Lib.parseUint10] at h; subst h; rfl
  | cons c a ih =>
    intro acc v h
    rw [List.cons_append]
    simp only [Lib.parseUint10] at h ⊢
    split at h
    · rename_i hc
      rw [if_pos hc]
      split at h
      · cases h
      · rename_i h1
        rw [if_neg h1]
        split at h
        · cases h
        · rename_i h2
          rw [if_neg h2]
          exact ih _ _ h
    · cases h
theorem parse_dig (u : Nat) (hu : u ≤ 16777216) : Lib.parseUint10 0 (Lib.decDigits u) = .ok u := by
  induction u using Nat.strongRecOn with
  | ind u ih =>
    rw [Lib.decDigits]
    split
    · rename_i h
      simp only [Lib.parseUint10]
      rw [dig_nat h, if_pos (by omega), if_neg (by omega), if_neg (by omega)]
      congr 1
      omega
    · rename_i h
      rw [parse_app _ _ _ _ (ih (u / 10) (by omega) (by omega))]
      simp only [Lib.parseUint10]
      rw [dig_nat (by omega), if_pos (by omega), if_neg (by omega), if_neg (by omega)]
      congr 1
      omega
theorem atoi_itoa {n : Int} (h0 : 0 ≤ n) (h1 : n ≤ 16777216) : Lib.atoiAll (Lib.itoa n) = .ok n := by
  obtain ⟨u, rfl⟩ : ∃ u : Nat, n = (u : Int) := ⟨n.toNat, by omega⟩
  have e : Lib.itoa (u : Int) = Lib.decDigits u := by unfold Lib.itoa; rw [if_neg (by omega), Int.toNat_natCast]
  rw [e]
  have hp := parse_dig u (by omega)
  have ha := dig_all u
  cases hd : Lib.decDigits u with
  | nil => exact absurd hd (dig_ne u)
  | cons c r =>
    rw [hd] at hp ha
    have hc := ha c (by simp)
    unfold Lib.atoiAll
    dsimp only
    rw [if_neg (by omega)]
    have hm : Lib.parseMag (c :: r) = .ok u := by unfold Lib.parseMag; rw [if_neg (by simp)]; exact hp
    rw [hm]
    dsimp only
    rw [if_neg (by omega), if_neg (by omega), if_neg (by omega)]
theorem itoa_all {n : Int} (h0 : 0 ≤ n) : ∀ c ∈ Lib.itoa n, 48 ≤ c.toNat ∧ c.toNat ≤ 57 := by
  unfold Lib.itoa
  rw [if_neg (by omega)]
  exact dig_all _
theorem itoa_ne (n : Int) : Lib.itoa n ≠ [] := by
  unfold Lib.itoa
  split
  · simp
  · exact dig_ne _
theorem no_dig {l : List UInt8} (h : ∀ c ∈ l, 48 ≤ c.toNat ∧ c.toNat ≤ 57) {z : UInt8} (hz : z.toNat < 48) : z ∉ l := fun e => by have := h z e; omega
/-- Words that are joined by blanks are the pieces. -/
theorem parts_join {z : UInt8} : ∀ (ws : List (List UInt8)), (∀ x ∈ ws, x ≠ [] ∧ z ∉ x) → parts z (Lib.join ws [z]) = ws
  | [], _ => by simp [Lib.join, parts, segs]
  | [x], h => by
    have e : Lib.join [x] [z] = x := by simp [Lib.join, List.intercalate]
    rw [e, parts_no (h x (by simp)).2, if_neg (h x (by simp)).1]
  | x :: y :: l, h => by
    have e : Lib.join (x :: y :: l) [z] = x ++ z :: Lib.join (y :: l) [z] := by simp [Lib.join, List.intercalate]
    rw [e, parts_cut _ (h x (by simp)).2, if_neg (h x (by simp)).1, parts_join (y :: l) (fun w hw => h w (List.mem_cons_of_mem _ hw))]
    rfl
theorem join_mem {z c : UInt8} : ∀ (ws : List (List UInt8)), c ∈ Lib.join ws [z] → c = z ∨ ∃ x ∈ ws, c ∈ x
  | [], h => by simp [Lib.join] at h
  | [x], h => by
    have e : Lib.join [x] [z] = x := by simp [Lib.join, List.intercalate]
    rw [e] at h
    exact .inr ⟨x, by simp, h⟩
  | x :: y :: l, h => by
    have e : Lib.join (x :: y :: l) [z] = x ++ z :: Lib.join (y :: l) [z] := by simp [Lib.join, List.intercalate]
    rw [e] at h
    rcases List.mem_append.1 h with h | h
    · exact .inr ⟨x, by simp, h⟩
    · rcases List.mem_cons.1 h with h | h
      · exact .inl h
      · rcases join_mem (y :: l) h with h | ⟨w, hw, hc⟩
        · exact .inl h
        · exact .inr ⟨w, List.mem_cons_of_mem _ hw, hc⟩
/-- The words of a block's line. -/
def wordsOf (ns : List Int) (c : Bool) : List (List UInt8) := ns.map Lib.itoa ++ (if c = true then [[99, 108, 111, 115, 101, 100]] else [])
theorem line_words {ns : List Int} (hn : ns ≠ []) (c : Bool) : lineF ns ++ (if c = true then closedT else []) = Lib.join (wordsOf ns c) [32] := by
  unfold wordsOf lineF
  cases c with
  | false => simp
  | true =>
    simp only [if_true]
    have : ∀ (ws : List (List UInt8)) (x : List UInt8), ws ≠ [] → Lib.join (ws ++ [x]) [32] = Lib.join ws [32] ++ 32 :: x := by
      intro ws x
      induction ws with
      | nil => intro h; exact absurd rfl h
      | cons y l ih =>
        intro _
        cases l with
        | nil => simp [Lib.join, List.intercalate]
        | cons z l =>
          have e1 : Lib.join ((y :: z :: l) ++ [x]) [32] = y ++ 32 :: Lib.join ((z :: l) ++ [x]) [32] := by simp [Lib.join, List.intercalate]
          have e2 : Lib.join (y :: z :: l) [32] = y ++ 32 :: Lib.join (z :: l) [32] := by simp [Lib.join, List.intercalate]
          rw [e1, e2, ih (by simp)]
          simp
    rw [this _ _ (by simpa using hn)]
    rfl
theorem words_ok {ns : List Int} (h : ∀ x ∈ ns, 0 ≤ x ∧ x ≤ 16777216) (c : Bool) : ∀ x ∈ wordsOf ns c, x ≠ [] ∧ (32 : UInt8) ∉ x ∧ (10 : UInt8) ∉ x ∧ x.length ≤ 8 := by
  intro x hx
  unfold wordsOf at hx
  rcases List.mem_append.1 hx with hx | hx
  · obtain ⟨n, hn, rfl⟩ := List.mem_map.1 hx
    have ha := itoa_all (h n hn).1
    exact ⟨itoa_ne n, no_dig ha (by decide), no_dig ha (by decide), itoa_len (h n hn).1 (h n hn).2⟩
  · split at hx
    · simp at hx
      subst hx
      exact ⟨by decide, by decide, by decide, by decide⟩
    · simp at hx
theorem not_closed {n : Int} (h0 : 0 ≤ n) : ¬ bs (Lib.itoa n) = closedB := fun e => by
  have h1 : Lib.itoa n = [99, 108, 111, 115, 101, 100] := bs_inj.1 e
  have := itoa_all h0 99 (by rw [h1]; simp)
  exact absurd this.2 (by decide)
theorem toPc_small {l : List UInt8} (h : l.length ≤ 1000) : (toPc (bs l)).1 = bs l := toPc_val (by omega)
/-- Numbers are read. -/
theorem row_nums : ∀ (ns : List Int) (acc : List Int) (c : Bool) (r : List Pc), (∀ x ∈ ns, 0 ≤ x ∧ x ≤ 16777216) → acc.length + ns.length ≤ 4 → rowF (acc, c) ((ns.map fun n => toPc (bs (Lib.itoa n))) ++ r) = rowF (acc ++ ns, c) r
  | [], acc, c, r, _, _ => by simp
  | n :: ns, acc, c, r, h, hl => by
    have hn := h n (by simp)
    simp only [List.length_cons] at hl
    rw [List.map_cons, List.cons_append]
    show (match rowS (acc, c) (toPc (bs (Lib.itoa n))).1 with | some st' => rowF st' _ | none => none) = _
    rw [toPc_small (by have := itoa_len hn.1 hn.2; omega), rowS_num (not_closed hn.1) (v := n) (by rw [bs_data]; exact atoi_itoa hn.1 hn.2) (by show ¬ acc.length = 4; omega)]
    dsimp only
    rw [row_nums ns (acc ++ [n]) c r (fun x hx => h x (List.mem_cons_of_mem _ hx)) (by simp; omega)]
    simp
theorem row_back {ns : List Int} (hn : ns ≠ []) (h : ∀ x ∈ ns, 0 ≤ x ∧ x ≤ 16777216) (hl : ns.length ≤ 4) (c : Bool) : rowF ([], false) (pieces 32 (lineF ns ++ (if c = true then closedT else []))) = some (ns, c) := by
  unfold pieces
  rw [line_words hn c, parts_join _ (fun x hx => ⟨(words_ok h c x hx).1, (words_ok h c x hx).2.1⟩)]
  unfold wordsOf
  rw [List.map_append, List.map_map]
  rw [show (ns.map ((fun p => toPc (bs p)) ∘ Lib.itoa)) = ns.map (fun n => toPc (bs (Lib.itoa n))) from rfl, row_nums ns [] false _ h (by simpa using hl), List.nil_append]
  cases c with
  | false => rfl
  | true =>
    show (match rowS (ns, false) (toPc (bs [99, 108, 111, 115, 101, 100])).1 with | some st' => rowF st' [] | none => none) = _
    rw [toPc_small (by decide), show bs [99, 108, 111, 115, 101, 100] = closedB from rfl, rowS_closed rfl]
    rfl
theorem line_no10 {ns : List Int} (hn : ns ≠ []) (h : ∀ x ∈ ns, 0 ≤ x ∧ x ≤ 16777216) (c : Bool) : (10 : UInt8) ∉ lineF ns ++ (if c = true then closedT else []) ∧ lineF ns ++ (if c = true then closedT else []) ≠ [] := by
  rw [line_words hn c]
  constructor
  · intro e
    rcases join_mem _ e with e | ⟨x, hx, e⟩
    · exact absurd e (by decide)
    · exact (words_ok h c x hx).2.2.1 e
  · intro e
    have := parts_join (z := 32) (wordsOf ns c) (fun x hx => ⟨(words_ok h c x hx).1, (words_ok h c x hx).2.1⟩)
    rw [e] at this
    have h2 : parts 32 [] = [] := by simp [parts, segs]
    rw [h2] at this
    unfold wordsOf at this
    cases ns with
    | nil => exact hn rfl
    | cons y l => simp at this
theorem blk_at (A : List PB) (y : PB) (r : List PB) : blk (A ++ y :: r) (A.length : Int) = some y := by
  unfold blk
  rw [if_neg (by omega), Int.toNat_natCast]
  simp
theorem set_at (A : List PB) (y z : PB) (r : List PB) : (A ++ y :: r).set A.length z = A ++ z :: r := by
  rw [List.set_append_right _ _ (by omega)]
  simp
theorem ent_back {size : Int} {x : PB} (h : x.Ok size) (hu : x.use ≠ 0) (A r : List PB) : entF size (A ++ PB.none :: r) [(A.length : Int), x.use, x.used, x.live] x.closed = some (A ++ x :: r) := by
  have h1 := h.use0
  have h2 := h.use3
  have h3 := h.l0
  have h4 := h.lu
  have h5 := h.us
  have e1 : takeF (A ++ PB.none :: r) (A.length : Int) x.use = (0, A ++ ⟨x.use, 0, 0, false⟩ :: r) := by
    unfold takeF
    rw [blk_at]
    dsimp only
    rw [if_neg (by omega), if_pos (show PB.none.use = 0 from rfl), Int.toNat_natCast, set_at]
    rfl
  have e2 : useF size (A ++ ⟨x.use, 0, 0, false⟩ :: r) (A.length : Int) x.used = (0, A ++ ⟨x.use, x.used, x.used, false⟩ :: r) := by
    unfold useF
    rw [blk_at]
    dsimp only
    rw [if_neg (by omega), if_neg hu, if_neg (by decide), if_neg (by omega), Int.toNat_natCast, set_at, Int.zero_add]
  have e3 : killF (A ++ ⟨x.use, x.used, x.used, false⟩ :: r) (A.length : Int) (x.used - x.live) = (0, A ++ ⟨x.use, x.used, x.live, false⟩ :: r) := by
    unfold killF
    rw [blk_at]
    dsimp only
    rw [if_neg (by omega), if_neg hu, if_neg (by omega), Int.toNat_natCast, set_at, show x.used - (x.used - x.live) = x.live by omega]
  have e4 : closeF (A ++ ⟨x.use, x.used, x.live, false⟩ :: r) (A.length : Int) = (0, A ++ ⟨x.use, x.used, x.live, true⟩ :: r) := by
    unfold closeF
    rw [blk_at]
    dsimp only
    rw [if_neg hu, Int.toNat_natCast, set_at]
  unfold entF
  dsimp only
  rw [e1]
  dsimp only
  rw [e2]
  dsimp only
  rw [e3]
  dsimp only
  rw [e4]
  obtain ⟨us, ud, lv, c⟩ := x
  dsimp only at h3 ⊢
  rw [if_neg (by decide), if_neg (by decide), if_neg (by omega), if_neg (by decide)]
  cases c with
  | false => rfl
  | true => rfl
theorem pieces_line {a : List UInt8} (b : List UInt8) (h1 : (10 : UInt8) ∉ a) (h2 : a ≠ []) : pieces 10 (a ++ 10 :: b) = toPc (bs a) :: pieces 10 b := by
  rw [pieces_cut b h1, if_neg h2]
  rfl
theorem rdS_line {st : Rb} {ns : List Int} (hn : ns ≠ []) (h : ∀ x ∈ ns, 0 ≤ x ∧ x ≤ 16777216) (hl : ns.length ≤ 4) (c : Bool) : rdS st (toPc (bs (lineF ns ++ (if c = true then closedT else [])))).1 = rdT st ns c := by
  have hlen := line_len h
  have hlen2 : (lineF ns ++ (if c = true then closedT else [])).length ≤ 1000 := by
    rw [List.length_append]
    have : (if c = true then closedT else []).length ≤ 7 := by split <;> decide
    omega
  rw [toPc_small hlen2]
  unfold rdS
  rw [bs_data, row_back hn h hl c]
theorem rd_rows {size : Int} (hs : size ≤ 16777216) : ∀ (xs A : List PB), AllOk size xs → A.length + xs.length ≤ 256 → rdF (some (size, A ++ List.replicate xs.length PB.none)) (pieces 10 (rowsT A.length xs)) = some (some (size, A ++ xs))
  | [], A, _, _ => by
    have : pieces 10 (rowsT A.length []) = [] := by simp [rowsT, pieces, parts, segs]
    rw [this]
    simp [rdF]
  | x :: xs, A, h, hl => by
    have hx := h x (by simp)
    have hxs : AllOk size xs := fun y hy => h y (List.mem_cons_of_mem _ hy)
    simp only [List.length_cons] at hl
    have ih := rd_rows hs xs (A ++ [x]) hxs (by simp; omega)
    rw [List.length_append, List.length_singleton] at ih
    simp only [rowsT]
    rw [List.length_cons, List.replicate_succ]
    by_cases hu : x.use = 0
    · have hx0 := hx.free hu
      unfold rowT
      rw [if_pos hu, List.nil_append]
      rw [hx0] at ih ⊢
      simpa using ih
    · unfold rowT
      rw [if_neg hu]
      have hb : ∀ y ∈ [(A.length : Int), x.use, x.used, x.live], 0 ≤ y ∧ y ≤ 16777216 := by
        have h1 := hx.use0
        have h2 := hx.use3
        have h3 := hx.l0
        have h4 := hx.lu
        have h5 := hx.us
        intro y hy
        simp at hy
        rcases hy with rfl | rfl | rfl | rfl <;> constructor <;> omega
      have hno := line_no10 (ns := [(A.length : Int), x.use, x.used, x.live]) (by simp) hb x.closed
      rw [List.append_assoc, List.singleton_append, pieces_line _ hno.1 hno.2]
      show (match rdS _ (toPc (bs _)).1 with | some st' => rdF st' _ | none => none) = _
      rw [rdS_line (by simp) hb (by simp) x.closed]
      unfold rdT
      dsimp only
      rw [ent_back hx hu A]
      show rdF (some (size, A ++ x :: List.replicate xs.length PB.none)) _ = _
      simpa using ih
/-- A book's text is read as the book. -/
theorem parse_text {size : Int} {l : List PB} (h : BkOk size l) : parseF (textF size l) = some (size, l) := by
  have h1 := h.s1
  have h2 := h.s2
  have h3 := h.n1
  have h4 := h.n2
  have hb : ∀ y ∈ [(l.length : Int), size], 0 ≤ y ∧ y ≤ 16777216 := by
    intro y hy
    simp at hy
    rcases hy with rfl | rfl <;> constructor <;> omega
  have hno := line_no10 (ns := [(l.length : Int), size]) (by simp) hb false
  have hr : rdF none (pieces 10 (textF size l)) = some (some (size, l)) := by
    unfold textF
    have e0 : lineF [(l.length : Int), size] ++ (if false = true then closedT else []) = lineF [(l.length : Int), size] := by simp
    rw [e0] at hno
    rw [List.append_assoc, List.singleton_append, pieces_line _ hno.1 hno.2]
    show (match rdS none (toPc (bs _)).1 with | some st' => rdF st' _ | none => none) = _
    have := rdS_line (st := none) (ns := [(l.length : Int), size]) (by simp) hb (by simp) false
    rw [e0] at this
    rw [this]
    unfold rdT begF
    dsimp only
    rw [if_pos ⟨by omega, by omega, h1, h2⟩, Int.toNat_natCast]
    have := rd_rows h2 l [] h.ok (by simp; omega)
    simpa using this
  unfold parseF
  rw [hr]
  dsimp only
  rw [if_pos rfl]
theorem parse_some {s : List UInt8} {size : Int} {l : List PB} (h : parseF s = some (size, l)) : textF size l = s := by
  unfold parseF at h
  split at h
  · split at h
    · rename_i ht
      cases h
      exact ht
    · cases h
  · cases h
end Go.Proofs.YtmaekpfkkpkgpaaGreatDoor
