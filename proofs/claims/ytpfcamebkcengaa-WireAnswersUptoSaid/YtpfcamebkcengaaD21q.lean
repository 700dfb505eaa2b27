/- Layer 21, plain: commands, keys, entries, states as bytes, there and back. -/
import Derived.Test.YtpfcamebkcengaaD21p
namespace Go.Proofs.Ytpfcamebkcengaa

/-- A command. -/
structure Cm21 where
  kind : Int
  feed : List UInt8
  guid : List UInt8
  doc : List UInt8
  cursor : List UInt8
  n : Int
  filter : Int
def cm0 (k : Int) : Cm21 := ⟨k, [], [], [], [], 0, 0⟩
/-- What counts of a command's fields, as bytes. -/
def body21 (c : Cm21) : List UInt8 :=
  if c.kind = 1 ∨ c.kind = 2 then text21 c.feed
  else if c.kind = 3 then text21 c.feed ++ text21 c.doc
  else if c.kind = 4 then int21 c.n
  else if c.kind = 5 ∨ c.kind = 6 ∨ c.kind = 9 then text21 c.feed ++ text21 c.guid
  else if c.kind = 8 then int21 c.filter ++ int21 c.n ++ text21 c.cursor
  else []
def cmd21 (c : Cm21) : List UInt8 := UInt8.ofNat (c.kind % 256).toNat :: body21 c
/-- A command with nothing but what counts for it. -/
def only21 (c : Cm21) : Cm21 :=
  if c.kind = 1 ∨ c.kind = 2 then { cm0 c.kind with feed := c.feed }
  else if c.kind = 3 then { cm0 c.kind with feed := c.feed, doc := c.doc }
  else if c.kind = 4 then { cm0 c.kind with n := c.n }
  else if c.kind = 5 ∨ c.kind = 6 ∨ c.kind = 9 then { cm0 c.kind with feed := c.feed, guid := c.guid }
  else if c.kind = 8 then { cm0 c.kind with filter := c.filter, n := c.n, cursor := c.cursor }
  else cm0 c.kind
/-- What counts of a command's fields, by its kind, and what stands behind. -/
def fields21 (k : Int) (s : List UInt8) : Option (Cm21 × List UInt8) :=
  if k = 1 ∨ k = 2 then match readT21 s 131072 with | none => none | some (f, t) => some ({ cm0 k with feed := f }, t)
  else if k = 3 then match readT21 s 131072 with | none => none | some (f, t) => match readT21 t 131072 with | none => none | some (d, u) => some ({ cm0 k with feed := f, doc := d }, u)
  else if k = 4 then match readI21 s with | none => none | some (n, t) => some ({ cm0 k with n := n }, t)
  else if k = 5 ∨ k = 6 ∨ k = 9 then match readT21 s 131072 with | none => none | some (f, t) => match readT21 t 131072 with | none => none | some (g, u) => some ({ cm0 k with feed := f, guid := g }, u)
  else if k = 8 then match readI21 s with | none => none | some (x, t) => match readI21 t with | none => none | some (n, u) => match readT21 u 131072 with | none => none | some (c, v) => some ({ cm0 k with filter := x, n := n, cursor := c }, v)
  else if k = 7 ∨ k = 10 then some (cm0 k, s)
  else none
/-- The command of bytes: an error's number, or 0 and the command. -/
def readC21 (s : List UInt8) : Int × Cm21 :=
  if 131072 < s.length then (8, cm0 0)
  else match s with
    | [] => (2, cm0 0)
    | b :: r => match fields21 b.toNat r with | some (c, []) => (0, c) | _ => (2, cm0 0)
theorem fields_read {k : Int} {s t : List UInt8} {c : Cm21} (h : fields21 k s = some (c, t)) : s = body21 c ++ t ∧ c.kind = k ∧ 1 ≤ k ∧ k ≤ 10 := by
  unfold fields21 at h
  by_cases c1 : k = 1 ∨ k = 2
  · rw [if_pos c1] at h
    cases e : readT21 s 131072 with
    | none => rw [e] at h; cases h
    | some p =>
      obtain ⟨f, u⟩ := p
      rw [e] at h
      simp only [Option.some.injEq, Prod.mk.injEq] at h
      obtain ⟨rfl, rfl⟩ := h
      refine ⟨?_, rfl, by omega, by omega⟩
      unfold body21 cm0
      simp only
      rw [if_pos c1]
      exact (text_read e).1
  rw [if_neg c1] at h
  by_cases c3 : k = 3
  · rw [if_pos c3] at h
    cases e : readT21 s 131072 with
    | none => rw [e] at h; cases h
    | some p =>
      obtain ⟨f, u⟩ := p
      rw [e] at h
      simp only at h
      cases e2 : readT21 u 131072 with
      | none => rw [e2] at h; cases h
      | some q =>
        obtain ⟨d, v⟩ := q
        rw [e2] at h
        simp only [Option.some.injEq, Prod.mk.injEq] at h
        obtain ⟨rfl, rfl⟩ := h
        refine ⟨?_, rfl, by omega, by omega⟩
        unfold body21 cm0
        simp only
        rw [if_neg c1, if_pos c3, List.append_assoc, ← (text_read e2).1]
        exact (text_read e).1
  rw [if_neg c3] at h
  by_cases c4 : k = 4
  · rw [if_pos c4] at h
    cases e : readI21 s with
    | none => rw [e] at h; cases h
    | some p =>
      obtain ⟨f, u⟩ := p
      rw [e] at h
      simp only [Option.some.injEq, Prod.mk.injEq] at h
      obtain ⟨rfl, rfl⟩ := h
      refine ⟨?_, rfl, by omega, by omega⟩
      unfold body21 cm0
      simp only
      rw [if_neg c1, if_neg c3, if_pos c4]
      exact (int_read e).1
  rw [if_neg c4] at h
  by_cases c5 : k = 5 ∨ k = 6 ∨ k = 9
  · rw [if_pos c5] at h
    cases e : readT21 s 131072 with
    | none => rw [e] at h; cases h
    | some p =>
      obtain ⟨f, u⟩ := p
      rw [e] at h
      simp only at h
      cases e2 : readT21 u 131072 with
      | none => rw [e2] at h; cases h
      | some q =>
        obtain ⟨d, v⟩ := q
        rw [e2] at h
        simp only [Option.some.injEq, Prod.mk.injEq] at h
        obtain ⟨rfl, rfl⟩ := h
        refine ⟨?_, rfl, by omega, by omega⟩
        unfold body21 cm0
        simp only
        rw [if_neg c1, if_neg c3, if_neg c4, if_pos c5, List.append_assoc, ← (text_read e2).1]
        exact (text_read e).1
  rw [if_neg c5] at h
  by_cases c8 : k = 8
  · rw [if_pos c8] at h
    cases e : readI21 s with
    | none => rw [e] at h; cases h
    | some p =>
      obtain ⟨f, u⟩ := p
      rw [e] at h
      simp only at h
      cases e2 : readI21 u with
      | none => rw [e2] at h; cases h
      | some q =>
        obtain ⟨d, v⟩ := q
        rw [e2] at h
        simp only at h
        cases e3 : readT21 v 131072 with
        | none => rw [e3] at h; cases h
        | some q =>
          obtain ⟨x, z⟩ := q
          rw [e3] at h
          simp only [Option.some.injEq, Prod.mk.injEq] at h
          obtain ⟨rfl, rfl⟩ := h
          refine ⟨?_, rfl, by omega, by omega⟩
          unfold body21 cm0
          simp only
          rw [if_neg c1, if_neg c3, if_neg c4, if_neg c5, if_pos c8, List.append_assoc, List.append_assoc, ← (text_read e3).1, ← (int_read e2).1]
          exact (int_read e).1
  rw [if_neg c8] at h
  by_cases c7 : k = 7 ∨ k = 10
  · rw [if_pos c7] at h
    simp only [Option.some.injEq, Prod.mk.injEq] at h
    obtain ⟨rfl, rfl⟩ := h
    refine ⟨?_, rfl, by omega, by omega⟩
    unfold body21 cm0
    simp only
    rw [if_neg c1, if_neg c3, if_neg c4, if_neg c5, if_neg c8]
    rfl
  · rw [if_neg c7] at h; cases h
/-- What is read as a command has just these bytes. -/
theorem cmd_read {s : List UInt8} {c : Cm21} (h : readC21 s = (0, c)) : cmd21 c = s := by
  unfold readC21 at h
  by_cases hl : 131072 < s.length
  · rw [if_pos hl] at h
    injection h with h
    cases h
  rw [if_neg hl] at h
  match s, h with
  | [], h => injection h with h; cases h
  | b :: r, h =>
    simp only at h
    cases e : fields21 b.toNat r with
    | none => rw [e] at h; injection h with h; cases h
    | some p =>
      obtain ⟨c', t⟩ := p
      rw [e] at h
      cases t with
      | cons x y => injection h with h; cases h
      | nil =>
        injection h with _ h
        subst h
        obtain ⟨i1, i2, i3, i4⟩ := fields_read e
        unfold cmd21
        rw [i2, ← List.append_nil (body21 c'), ← i1]
        congr 1
        apply UInt8.toNat_inj.1
        rw [UInt8.toNat_ofNat']
        have := b.toNat_lt
        omega
/-- A command's numbers and texts may be. -/
structure CmOk (c : Cm21) : Prop where
  n1 : -9223372036854775808 ≤ c.n
  n2 : c.n ≤ 9223372036854775807
  f1 : -9223372036854775808 ≤ c.filter
  f2 : c.filter ≤ 9223372036854775807
  la : c.feed.length ≤ 131072
  lb : c.guid.length ≤ 131072
  lc : c.doc.length ≤ 131072
  ld : c.cursor.length ≤ 131072
theorem read_fields {c : Cm21} (h : CmOk c) (k1 : 1 ≤ c.kind) (k2 : c.kind ≤ 10) : fields21 c.kind (body21 c) = some (only21 c, []) := by
  have ha := h.la
  have hb := h.lb
  have hc := h.lc
  have hd := h.ld
  have t1 := fun (s b : List UInt8) (h : s.length ≤ 131072) => read_text (most := 131072) b (show (s.length : Int) ≤ 131072 by omega) (by omega)
  have nil : ∀ s : List UInt8, s = s ++ [] := fun s => (List.append_nil s).symm
  unfold fields21 body21 only21
  by_cases c1 : c.kind = 1 ∨ c.kind = 2
  · rw [if_pos c1, if_pos c1, if_pos c1, nil (text21 c.feed), t1 _ _ ha]
  rw [if_neg c1, if_neg c1, if_neg c1]
  by_cases c3 : c.kind = 3
  · rw [if_pos c3, if_pos c3, if_pos c3, t1 _ _ ha]
    simp only
    rw [nil (text21 c.doc), t1 _ _ hc]
  rw [if_neg c3, if_neg c3, if_neg c3]
  by_cases c4 : c.kind = 4
  · rw [if_pos c4, if_pos c4, if_pos c4, nil (int21 c.n), read_int h.n1 h.n2]
  rw [if_neg c4, if_neg c4, if_neg c4]
  by_cases c5 : c.kind = 5 ∨ c.kind = 6 ∨ c.kind = 9
  · rw [if_pos c5, if_pos c5, if_pos c5, t1 _ _ ha]
    simp only
    rw [nil (text21 c.guid), t1 _ _ hb]
  rw [if_neg c5, if_neg c5, if_neg c5]
  by_cases c8 : c.kind = 8
  · rw [if_pos c8, if_pos c8, if_pos c8, List.append_assoc, read_int h.f1 h.f2]
    simp only
    rw [read_int h.n1 h.n2]
    simp only
    rw [nil (text21 c.cursor), t1 _ _ hd]
  · rw [if_neg c8, if_neg c8, if_neg c8, if_pos (by omega)]
/-- A command is read from its bytes, but for what doesn't count. -/
theorem read_cmd {c : Cm21} (h : CmOk c) (k1 : 1 ≤ c.kind) (k2 : c.kind ≤ 10) (hl : (cmd21 c).length ≤ 131072) : readC21 (cmd21 c) = (0, only21 c) := by
  unfold readC21
  rw [if_neg (by omega)]
  unfold cmd21
  simp only
  have e : (((UInt8.ofNat (c.kind % 256).toNat).toNat : Nat) : Int) = c.kind := by rw [UInt8.toNat_ofNat']; omega
  rw [e, read_fields h k1 k2]
theorem only_kind (c : Cm21) : (only21 c).kind = c.kind := by
  unfold only21
  repeat' split
  all_goals rfl
theorem only_body (c : Cm21) : body21 (only21 c) = body21 c := by
  have hk := only_kind c
  unfold body21
  rw [hk]
  unfold only21
  split
  · rfl
  · split
    · rfl
    · split
      · rfl
      · split
        · rfl
        · split
          · rfl
          · rfl
theorem only_cmd (c : Cm21) : cmd21 (only21 c) = cmd21 c := by unfold cmd21; rw [only_kind, only_body]

/-- So many bytes of a number, the lowest first. -/
def le21 : Nat → Nat → List UInt8
  | 0, _ => []
  | k + 1, u => UInt8.ofNat u :: le21 k (u / 256)
def rdLe : List UInt8 → Nat
  | [] => 0
  | c :: r => c.toNat + 256 * rdLe r
theorem le_len : ∀ k u, (le21 k u).length = k
  | 0, _ => rfl
  | k + 1, u => by rw [le21, List.length_cons, le_len k]
theorem rd_le : ∀ (k u : Nat), u < 256 ^ k → rdLe (le21 k u) = u
  | 0, u, h => by have : u < 1 := h; rw [le21, rdLe]; omega
  | k + 1, u, h => by
    rw [Nat.pow_succ] at h
    rw [le21, rdLe, rd_le k (u / 256) (by omega), UInt8.toNat_ofNat']
    omega
theorem le_rd : ∀ s : List UInt8, le21 s.length (rdLe s) = s
  | [] => rfl
  | c :: r => by
    have hc := c.toNat_lt
    rw [List.length_cons, le21, rdLe, show (c.toNat + 256 * rdLe r) / 256 = rdLe r by omega, le_rd r]
    congr 1
    apply UInt8.toNat_inj.1
    rw [UInt8.toNat_ofNat']
    omega
theorem rd_lt : ∀ s : List UInt8, rdLe s < 256 ^ s.length
  | [] => by simp [rdLe]
  | c :: r => by
    have hc := c.toNat_lt
    have := rd_lt r
    rw [rdLe, List.length_cons, Nat.pow_succ]
    omega
/-- So many of a kind, one behind the other. -/
def readN21 {α : Type} (f : List UInt8 → Option (α × List UInt8)) : Nat → List UInt8 → Option (List α × List UInt8)
  | 0, s => some ([], s)
  | k + 1, s => match f s with | none => none | some (x, t) => match readN21 f k t with | none => none | some (l, u) => some (x :: l, u)
theorem readN_of {α : Type} {f : List UInt8 → Option (α × List UInt8)} {g : α → List UInt8} : ∀ (l : List α) (t : List UInt8), (∀ x ∈ l, ∀ t, f (g x ++ t) = some (x, t)) → readN21 f l.length (l.flatMap g ++ t) = some (l, t)
  | [], t, _ => rfl
  | x :: r, t, h => by
    rw [List.length_cons, List.flatMap_cons, readN21, List.append_assoc, h x List.mem_cons_self]
    simp only
    rw [readN_of r t fun y hy => h y (List.mem_cons_of_mem _ hy)]
theorem of_readN {α : Type} {f : List UInt8 → Option (α × List UInt8)} {g : α → List UInt8} (hf : ∀ s x t, f s = some (x, t) → s = g x ++ t) : ∀ (k : Nat) (s : List UInt8) (l : List α) (t : List UInt8), readN21 f k s = some (l, t) → s = l.flatMap g ++ t ∧ l.length = k
  | 0, s, l, t, h => by
    simp only [readN21, Option.some.injEq, Prod.mk.injEq] at h
    obtain ⟨rfl, rfl⟩ := h
    exact ⟨rfl, rfl⟩
  | k + 1, s, l, t, h => by
    rw [readN21] at h
    cases e : f s with
    | none => rw [e] at h; cases h
    | some p =>
      obtain ⟨x, u⟩ := p
      rw [e] at h
      simp only at h
      cases e2 : readN21 f k u with
      | none => rw [e2] at h; cases h
      | some q =>
        obtain ⟨r, v⟩ := q
        rw [e2] at h
        simp only [Option.some.injEq, Prod.mk.injEq] at h
        obtain ⟨rfl, rfl⟩ := h
        obtain ⟨i1, i2⟩ := of_readN hf k u r v e2
        refine ⟨?_, by rw [List.length_cons, i2]⟩
        rw [hf s x u e, i1, List.flatMap_cons, List.append_assoc]
/-- A key, an entry, a state. -/
structure Ky21 where
  feed : List UInt8
  guid : List UInt8
structure En21 where
  key : Ky21
  title : List UInt8
  link : List UInt8
  body : List UInt8
  stamp : Int
  sig : Nat
structure St21 where
  now : Int
  floor : Int
  epoch : Int
  feeds : List (List UInt8)
  entries : List En21
  read : List Ky21
def key21 (k : Ky21) : List UInt8 := text21 k.feed ++ text21 k.guid
def readK21 (s : List UInt8) : Option (Ky21 × List UInt8) :=
  match readT21 s 24 with | none => none | some (f, t) => match readT21 t 256 with | none => none | some (g, u) => some (⟨f, g⟩, u)
def ent21 (x : En21) : List UInt8 := key21 x.key ++ (text21 x.title ++ (text21 x.link ++ (text21 x.body ++ (int21 x.stamp ++ le21 8 x.sig))))
def readE21 (s : List UInt8) : Option (En21 × List UInt8) :=
  match readK21 s with
  | none => none
  | some (k, s1) => match readT21 s1 262144 with
    | none => none
    | some (a, s2) => match readT21 s2 262144 with
      | none => none
      | some (b, s3) => match readT21 s3 262144 with
        | none => none
        | some (c, s4) => match readI21 s4 with
          | none => none
          | some (n, s5) => if s5.length < 8 then none else some (⟨k, a, b, c, n, rdLe (s5.take 8)⟩, s5.drop 8)
theorem read_key {k : Ky21} (t : List UInt8) (h1 : k.feed.length ≤ 24) (h2 : k.guid.length ≤ 256) : readK21 (key21 k ++ t) = some (k, t) := by
  unfold readK21 key21
  rw [List.append_assoc, read_text _ (show (k.feed.length : Int) ≤ 24 by omega) (by omega)]
  simp only
  rw [read_text _ (show (k.guid.length : Int) ≤ 256 by omega) (by omega)]
theorem key_read {s t : List UInt8} {k : Ky21} (h : readK21 s = some (k, t)) : s = key21 k ++ t := by
  unfold readK21 at h
  cases e : readT21 s 24 with
  | none => rw [e] at h; cases h
  | some p =>
    obtain ⟨f, u⟩ := p
    rw [e] at h
    simp only at h
    cases e2 : readT21 u 256 with
    | none => rw [e2] at h; cases h
    | some q =>
      obtain ⟨g, v⟩ := q
      rw [e2] at h
      simp only [Option.some.injEq, Prod.mk.injEq] at h
      obtain ⟨rfl, rfl⟩ := h
      unfold key21
      rw [List.append_assoc, ← (text_read e2).1]
      exact (text_read e).1
/-- An entry that may be read back. -/
structure EnOk (x : En21) : Prop where
  f : x.key.feed.length ≤ 24
  g : x.key.guid.length ≤ 256
  a : x.title.length ≤ 262144
  b : x.link.length ≤ 262144
  c : x.body.length ≤ 262144
  n1 : -9223372036854775808 ≤ x.stamp
  n2 : x.stamp ≤ 9223372036854775807
  s : x.sig < 18446744073709551616
theorem read_ent {x : En21} (t : List UInt8) (h : EnOk x) : readE21 (ent21 x ++ t) = some (x, t) := by
  have ha := h.a
  have hb := h.b
  have hc := h.c
  have t1 := fun (s b : List UInt8) (h : s.length ≤ 262144) => read_text (most := 262144) b (show (s.length : Int) ≤ 262144 by omega) (by omega)
  unfold readE21 ent21
  simp only [List.append_assoc]
  rw [read_key _ h.f h.g]
  simp only
  rw [t1 _ _ ha]
  simp only
  rw [t1 _ _ hb]
  simp only
  rw [t1 _ _ hc]
  simp only
  rw [read_int h.n1 h.n2]
  simp only
  have h8 : (le21 8 x.sig).length = 8 := le_len 8 _
  rw [if_neg (by rw [List.length_append, h8]; omega)]
  have e1 : (le21 8 x.sig ++ t).take 8 = le21 8 x.sig := List.take_left' h8
  have e2 : (le21 8 x.sig ++ t).drop 8 = t := List.drop_left' h8
  rw [e1, e2, rd_le 8 _ h.s]
theorem ent_read {s t : List UInt8} {x : En21} (h : readE21 s = some (x, t)) : s = ent21 x ++ t := by
  unfold readE21 at h
  cases e0 : readK21 s with
  | none => rw [e0] at h; cases h
  | some p0 =>
    obtain ⟨k, s1⟩ := p0
    rw [e0] at h
    simp only at h
    cases e1 : readT21 s1 262144 with
    | none => rw [e1] at h; cases h
    | some p1 =>
      obtain ⟨a, s2⟩ := p1
      rw [e1] at h
      simp only at h
      cases e2 : readT21 s2 262144 with
      | none => rw [e2] at h; cases h
      | some p2 =>
        obtain ⟨b, s3⟩ := p2
        rw [e2] at h
        simp only at h
        cases e3 : readT21 s3 262144 with
        | none => rw [e3] at h; cases h
        | some p3 =>
          obtain ⟨c, s4⟩ := p3
          rw [e3] at h
          simp only at h
          cases e4 : readI21 s4 with
          | none => rw [e4] at h; cases h
          | some p4 =>
            obtain ⟨n, s5⟩ := p4
            rw [e4] at h
            simp only at h
            by_cases hl : s5.length < 8
            · rw [if_pos hl] at h; cases h
            · rw [if_neg hl] at h
              simp only [Option.some.injEq, Prod.mk.injEq] at h
              obtain ⟨rfl, rfl⟩ := h
              have h8 : (s5.take 8).length = 8 := by rw [List.length_take]; omega
              have hle : le21 8 (rdLe (s5.take 8)) = s5.take 8 := by
                have := le_rd (s5.take 8)
                rw [h8] at this
                exact this
              unfold ent21
              simp only [List.append_assoc]
              rw [hle, List.take_append_drop, ← (int_read e4).1, ← (text_read e3).1, ← (text_read e2).1, ← (text_read e1).1]
              exact key_read e0
/-- A state's bytes. -/
def state21 (x : St21) : List UInt8 := int21 x.now ++ (int21 x.floor ++ (int21 x.epoch ++ (int21 x.feeds.length ++ (x.feeds.flatMap text21 ++ (int21 x.entries.length ++ (x.entries.flatMap ent21 ++ (int21 x.read.length ++ x.read.flatMap key21)))))))
/-- The state of bytes. -/
def readS21 (s : List UInt8) : Option St21 :=
  match readI21 s with
  | none => none
  | some (a, s1) => match readI21 s1 with
    | none => none
    | some (b, s2) => match readI21 s2 with
      | none => none
      | some (c, s3) => match readI21 s3 with
        | none => none
        | some (n, s4) => match readN21 (fun s => readT21 s 24) n.toNat s4 with
          | none => none
          | some (fs, s5) => match readI21 s5 with
            | none => none
            | some (k, s6) => if n < 0 ∨ k < 0 then none else match readN21 readE21 k.toNat s6 with
              | none => none
              | some (es, s7) => match readI21 s7 with
                | none => none
                | some (m, s8) => if m < 0 then none else match readN21 readK21 m.toNat s8 with
                  | none => none
                  | some (ks, s9) => if s9 = [] then some ⟨a, b, c, fs, es, ks⟩ else none
/-- A state that may be read back. -/
structure StOk (x : St21) : Prop where
  a1 : -9223372036854775808 ≤ x.now
  a2 : x.now ≤ 9223372036854775807
  b1 : -9223372036854775808 ≤ x.floor
  b2 : x.floor ≤ 9223372036854775807
  c1 : -9223372036854775808 ≤ x.epoch
  c2 : x.epoch ≤ 9223372036854775807
  n : x.feeds.length ≤ 9223372036854775807
  k : x.entries.length ≤ 9223372036854775807
  m : x.read.length ≤ 9223372036854775807
  fs : ∀ f ∈ x.feeds, f.length ≤ 24
  es : ∀ e ∈ x.entries, EnOk e
  ks : ∀ y ∈ x.read, y.feed.length ≤ 24 ∧ y.guid.length ≤ 256
/-- A state is read from its bytes. -/
theorem read_state {x : St21} (h : StOk x) : readS21 (state21 x) = some x := by
  have hn := h.n
  have hk := h.k
  have hm := h.m
  unfold readS21 state21
  rw [read_int h.a1 h.a2]
  simp only
  rw [read_int h.b1 h.b2]
  simp only
  rw [read_int h.c1 h.c2]
  simp only
  rw [read_int (by omega) (by omega)]
  simp only
  rw [Int.toNat_natCast, readN_of (f := fun s => readT21 s 24) (g := text21) x.feeds _ fun f hf t => read_text t (by have := h.fs f hf; omega) (by have := h.fs f hf; omega)]
  simp only
  rw [read_int (by omega) (by omega)]
  simp only
  rw [if_neg (by omega), Int.toNat_natCast, readN_of (f := readE21) (g := ent21) x.entries _ fun e he t => read_ent t (h.es e he)]
  simp only
  rw [read_int (by omega) (by omega)]
  simp only
  rw [if_neg (by omega), Int.toNat_natCast]
  have e := readN_of (f := readK21) (g := key21) x.read [] fun y hy t => read_key t (h.ks y hy).1 (h.ks y hy).2
  rw [List.append_nil] at e
  rw [e]
  simp only
  rw [if_pos trivial]
/-- What is read as a state has just these bytes. -/
theorem state_read {s : List UInt8} {x : St21} (h : readS21 s = some x) : state21 x = s := by
  unfold readS21 at h
  cases e0 : readI21 s with
  | none => rw [e0] at h; cases h
  | some p0 =>
    obtain ⟨a, s1⟩ := p0
    rw [e0] at h
    simp only at h
    cases e1 : readI21 s1 with
    | none => rw [e1] at h; cases h
    | some p1 =>
      obtain ⟨b, s2⟩ := p1
      rw [e1] at h
      simp only at h
      cases e2 : readI21 s2 with
      | none => rw [e2] at h; cases h
      | some p2 =>
        obtain ⟨c, s3⟩ := p2
        rw [e2] at h
        simp only at h
        cases e3 : readI21 s3 with
        | none => rw [e3] at h; cases h
        | some p3 =>
          obtain ⟨n, s4⟩ := p3
          rw [e3] at h
          simp only at h
          cases e4 : readN21 (fun s => readT21 s 24) n.toNat s4 with
          | none => rw [e4] at h; cases h
          | some p4 =>
            obtain ⟨fs, s5⟩ := p4
            rw [e4] at h
            simp only at h
            cases e5 : readI21 s5 with
            | none => rw [e5] at h; cases h
            | some p5 =>
              obtain ⟨k, s6⟩ := p5
              rw [e5] at h
              simp only at h
              by_cases hnk : n < 0 ∨ k < 0
              · rw [if_pos hnk] at h; cases h
              rw [if_neg hnk] at h
              cases e6 : readN21 readE21 k.toNat s6 with
              | none => rw [e6] at h; cases h
              | some p6 =>
                obtain ⟨es, s7⟩ := p6
                rw [e6] at h
                simp only at h
                cases e7 : readI21 s7 with
                | none => rw [e7] at h; cases h
                | some p7 =>
                  obtain ⟨m, s8⟩ := p7
                  rw [e7] at h
                  simp only at h
                  by_cases hm : m < 0
                  · rw [if_pos hm] at h; cases h
                  rw [if_neg hm] at h
                  cases e8 : readN21 readK21 m.toNat s8 with
                  | none => rw [e8] at h; cases h
                  | some p8 =>
                    obtain ⟨ks, s9⟩ := p8
                    rw [e8] at h
                    simp only at h
                    by_cases h9 : s9 = []
                    · rw [if_pos h9] at h
                      injection h with h
                      subst h h9
                      obtain ⟨i4, l4⟩ := of_readN (g := text21) (fun s x t e => (text_read e).1) _ _ _ _ e4
                      obtain ⟨i6, l6⟩ := of_readN (g := ent21) (fun s x t e => ent_read e) _ _ _ _ e6
                      obtain ⟨i8, l8⟩ := of_readN (g := key21) (fun s x t e => key_read e) _ _ _ _ e8
                      have q4 : ((fs.length : Nat) : Int) = n := by omega
                      have q6 : ((es.length : Nat) : Int) = k := by omega
                      have q8 : ((ks.length : Nat) : Int) = m := by omega
                      rw [List.append_nil] at i8
                      unfold state21
                      simp only
                      rw [q4, q6, q8, ← i8, ← (int_read e7).1, ← i6, ← (int_read e5).1, ← i4, ← (int_read e3).1, ← (int_read e2).1, ← (int_read e1).1, ← (int_read e0).1]
                    · rw [if_neg h9] at h; cases h
end Go.Proofs.Ytpfcamebkcengaa
