"""Sheets of paint, as bytes and as points; sheets laid over one another, moved, repainted, counted, and compared.

Film, exposed to the light of sheets, and developed.
"""

MARK = (67, 69, 76, 49)
W_PLACE = 4
H_PLACE = 6
RUNS_PLACE = 8
LARGEST_SIDE = 256
LARGEST_PAINT = 255
CLEAR = 0
# No sheet has more: 8 bytes, and two for each of 256 times 256 points.
MOST_BYTES = 131080
COLOURS = 3
MODEL_BYTES = 768
LARGEST_EXPOSURE = 64
LARGEST_FILM_NUMBER = 65535
LARGEST_BYTE = 255


def judge(b):
    if len(b) > MOST_BYTES:
        return [-2]
    fault = first_fault(b)
    if fault is None:
        return [0]
    return [-6, fault[0], fault[1]]


def size(b):
    judged = judge(b)[0]
    if judged != 0:
        return [judged]
    return [two_bytes(b, W_PLACE), two_bytes(b, H_PLACE)]


def open_of(b):
    judged = judge(b)[0]
    if judged != 0:
        return [judged]
    points = []
    for place in range(RUNS_PLACE, len(b), 2):
        points.extend([run_paint(b, place)] * run_length(b, place))
    return [len(points)] + points


def keep(w, h, a):
    if not are_points(a, w, h):
        return [-1]
    b = list(MARK) + as_two_bytes(w) + as_two_bytes(h)
    for start in range(0, len(a), w):
        b.extend(row_runs(a[start:start + w]))
    return [len(b)] + b


def over(w, h, up, low):
    if not are_points(up, w, h) or not are_points(low, w, h):
        return [-1]
    return [len(up)] + [paint_over(above, below) for above, below in zip(up, low)]


def move(w, h, dx, dy, a):
    if not are_points(a, w, h):
        return [-1]
    points = []
    for y in range(h):
        points.extend([paint_at(a, w, h, x - dx, y - dy) for x in range(w)])
    return [len(points)] + points


def repaint(w, h, a, table):
    if not are_points(a, w, h) or len(table) != LARGEST_PAINT + 1:
        return [-1]
    return [len(a)] + [repainted(paint, table) for paint in a]


def count(w, h, p, a):
    if not are_points(a, w, h) or p > LARGEST_PAINT:
        return [-1]
    return [a.count(p)]


def box(w, h, a):
    if not are_points(a, w, h):
        return [-1]
    painted = [number for number, paint in enumerate(a) if paint != CLEAR]
    if len(painted) == 0:
        return [-3]
    xs = [number % w for number in painted]
    ys = [number // w for number in painted]
    return [min(xs), min(ys), max(xs), max(ys)]


def differ(w, h, a, b):
    if not are_points(a, w, h) or not are_points(b, w, h):
        return [-1]
    for number in range(len(a)):
        if a[number] != b[number]:
            return [number]
    return [-3]


def expose(w, h, e, film, a, model):
    if not are_points(a, w, h) or not is_film(film, w, h):
        return [-1]
    if len(model) != MODEL_BYTES or e > LARGEST_EXPOSURE:
        return [-1]
    return [exposed(number, e, light) for number, light in zip(film, lights(a, model))]


def develop(w, h, film):
    if not is_film(film, w, h):
        return [-1]
    return [len(film)] + [developed(number) for number in film]


# A fault is its kind and its place; None stands for no fault.
def first_fault(b):
    fault = head_fault(b)
    if fault is not None:
        return fault
    return runs_fault(b, two_bytes(b, W_PLACE), two_bytes(b, H_PLACE))


def head_fault(b):
    if len(b) < RUNS_PLACE or b[:len(MARK)] != list(MARK):
        return (1, 0)
    if not is_side(two_bytes(b, W_PLACE)):
        return (2, W_PLACE)
    if not is_side(two_bytes(b, H_PLACE)):
        return (2, H_PLACE)
    return None


def runs_fault(b, w, h):
    place = RUNS_PLACE
    for y in range(h):
        left = w
        # A row's first run has none before it, whatever the row above ended with.
        paint_before = None
        while left > 0:
            fault = run_fault(b, place, left, paint_before)
            if fault is not None:
                return fault
            left = left - run_length(b, place)
            paint_before = run_paint(b, place)
            place = place + 2
    if place < len(b):
        return (6, place)
    return None


def run_fault(b, place, left, paint_before):
    if len(b) - place < 2:
        return (3, len(b))
    if run_length(b, place) > left:
        return (4, place)
    if run_paint(b, place) == paint_before:
        return (5, place)
    return None


def run_length(b, place):
    return b[place] + 1


def run_paint(b, place):
    return b[place + 1]


def two_bytes(b, place):
    return b[place] + 256 * b[place + 1]


def as_two_bytes(n):
    return [n % 256, n // 256]


def row_runs(row):
    runs = []
    start = 0
    for x in range(1, len(row) + 1):
        if x == len(row) or row[x] != row[start]:
            runs.extend([x - start - 1, row[start]])
            start = x
    return runs


def paint_over(above, below):
    if above != CLEAR:
        return above
    return below


def paint_at(a, w, h, x, y):
    # An x outside the row has a number all the same: that of a point in another row.
    if 0 <= x < w and 0 <= y < h:
        return a[y * w + x]
    return CLEAR


def repainted(paint, table):
    if paint == CLEAR:
        return CLEAR
    return table[paint]


# In the order of a film's numbers: every point's red, then every point's green, then every point's blue.
def lights(a, model):
    found = []
    for colour in range(COLOURS):
        found.extend([model[COLOURS * paint + colour] for paint in a])
    return found


def exposed(number, e, light):
    return min(LARGEST_FILM_NUMBER, number + e * light)


def developed(number):
    return min(LARGEST_BYTE, (number + 32) // 64)


def is_side(n):
    return 1 <= n <= LARGEST_SIDE


def are_points(a, w, h):
    return is_side(w) and is_side(h) and len(a) == w * h


def is_film(film, w, h):
    if not is_side(w) or not is_side(h) or len(film) != COLOURS * w * h:
        return False
    return max(film) <= LARGEST_FILM_NUMBER
